/- Walk of the statements' own awake: the examples. Conditions: the package's tables hold their lists. -/
import Derived.Test.YtolmhcdcfnoicaaDoorTrQ
namespace Go.Proofs.YtolmhcdcfnoicaaDoor.Tr
open Go Go.RowKit
open Go.Proofs.YtolmhcdcfnoicaaDoor.Lx

def dG : De := ⟨1, ⟨#[120]⟩, 0, none, 0, [], none, 0, [], 0⟩
def eTwo : Ex := .mk 1 ⟨#[]⟩ 2 none 0 [] 0
def eOne : Ex := .mk 1 ⟨#[]⟩ 1 none 0 [] 0
def eIdx (p : Nat) : Ex := .mk 4 ⟨#[97]⟩ 0 (some ⟨p + 1, 0, none⟩) 1 [eTwo] 0
def eAdd (p : Nat) : Ex := .mk 7 ⟨#[]⟩ 0 (some ⟨p + 2, 0, none⟩) 2 [eOne, eIdx p] 0
def sPrint (p : Nat) : St := .mk 7 ⟨#[]⟩ ⟨#[]⟩ false (some ⟨p + 3, 0, none⟩) 1 [eAdd p] none 0 [] none 0 [] 0
def dT (p : Nat) : De := ⟨5, ⟨#[116]⟩, 0, none, 0, [], some ⟨p + 4, 0, none⟩, 1, [sPrint p], 0⟩
theorem mayG : mayP [dG] = true := by rfl
theorem mayT (p : Nat) : mayP [dT p] = true := by rfl
theorem depG : deepest (ptsD [dG]) = 0 := by rfl
theorem depT (p : Nat) : deepest (ptsD [dT p]) = 4 := by rfl
theorem lenG : (ptsD [dG]).length = 0 := by rfl
theorem lenT (p : Nat) : (ptsD [dT p]).length = 5 := by rfl
theorem sameGT (p : Nat) : sameDL [dG] [dT p] = false := by rfl
theorem szG : De.szL [dG] = 0 := by rfl
theorem szT (p : Nat) : De.szL [dT p] = 5 := by rfl
theorem nmeX : nme [120] = true := by rfl
theorem nmeIf : nme [105, 102] = false := by rfl
/-- a list of one declaration, made anew -/
theorem one_de (d : De) (W : World) (hin : De.In W (fun _ => True) d) : RowAt (W.alloc (.cells ⟨d.vals⟩ 40)) (fun _ => True) (some ⟨W.heap.size, 0, none⟩) 1 1 (deCells [d]) ∧ De.InL (W.alloc (.cells ⟨d.vals⟩ 40)) (fun _ => True) [d] := by
  refine ⟨⟨Nat.le_refl _, by unfold maxLen; omega, fun h => (by cases h), fun j u hu => ⟨W.heap.size, 0, rfl, trivial, ?_⟩⟩, fun x hx => ?_⟩
  · have h : (W.alloc (.cells ⟨d.vals⟩ 40)).heap[W.heap.size]? = some (.cells ⟨d.vals⟩ 40 (0, 0)) := World.alloc_heap_new W _
    have key : ∀ (V : World) (B : Nat), V.heap[B]? = some (.cells ⟨d.vals⟩ 40 (0, 0)) → V.cell? ⟨B, 0 + j, none⟩ = some u := fun V B hB => by
      simp only [World.cell?, hB]
      rw [Nat.zero_add]
      simpa [deCells] using hu
    exact key _ _ h
  · rw [List.mem_singleton.1 hx]; exact De.In.below (Kps.alloc _ _) hin
/-- what awake has laid lies still -/
structure Aw (w : World) (p : Nat) (W : World) : Prop where
  below : Below w.heap.size w W
  g : W.cell? ⟨p, 0, none⟩ = some (.int .u8 1) ∧ W.cell? ⟨p, 1, none⟩ = some (.string ⟨#[120]⟩) ∧ W.cell? ⟨p, 2, none⟩ = some (.int .i64 0) ∧ W.cell? ⟨p, 3, none⟩ = some (.slice none 0 0) ∧ W.cell? ⟨p, 4, none⟩ = some (.slice none 0 0) ∧ W.cell? ⟨p, 5, none⟩ = some (.int .i64 0)
  t : W.cell? ⟨p + 1 + 1 + 1 + 1 + 1, 0, none⟩ = some (.int .u8 5) ∧ W.cell? ⟨p + 1 + 1 + 1 + 1 + 1, 1, none⟩ = some (.string ⟨#[116]⟩) ∧ W.cell? ⟨p + 1 + 1 + 1 + 1 + 1, 2, none⟩ = some (.int .i64 0) ∧ W.cell? ⟨p + 1 + 1 + 1 + 1 + 1, 3, none⟩ = some (.slice none 0 0) ∧ W.cell? ⟨p + 1 + 1 + 1 + 1 + 1, 4, none⟩ = some (.slice (some ⟨p + 1 + 1 + 1 + 1, 0, none⟩) 1 1) ∧ W.cell? ⟨p + 1 + 1 + 1 + 1 + 1, 5, none⟩ = some (.int .i64 0)
theorem Aw.next {w : World} {p : Nat} {W W' : World} (h : Aw w p W) (hb : Below W.heap.size W W') : Aw w p W' := by
  obtain ⟨h1, ⟨g0, g1, g2, g3, g4, g5⟩, ⟨t0, t1, t2, t3, t4, t5⟩⟩ := h
  exact ⟨h1.trans (hb.mono h1.size), ⟨below_in hb g0, below_in hb g1, below_in hb g2, below_in hb g3, below_in hb g4, below_in hb g5⟩, ⟨below_in hb t0, below_in hb t1, below_in hb t2, below_in hb t3, below_in hb t4, below_in hb t5⟩⟩
theorem Aw.al {w : World} {p : Nat} {W : World} (h : Aw w p W) (o : Obj) : Aw w p (W.alloc o) := h.next ((Below.refl _ _).alloc (Nat.le_refl _) _)

theorem rowAt_block {W : World} {b : Nat} {vs : Array Value} {t : TypeId} (h : W.heap[b]? = some (.cells vs t (0, 0))) (n : Nat) (hn : n ≤ 4) (xs : List Value) (hx : xs = vs.toList) : RowAt W (fun _ => True) (some ⟨b, 0, none⟩) n n xs := by
  refine ⟨Nat.le_refl _, by unfold maxLen; omega, fun h => (by cases h), fun j u hu => ⟨b, 0, rfl, trivial, ?_⟩⟩
  subst hx
  simp only [World.cell?, h]
  rw [Nat.zero_add]
  simpa using hu
theorem rowAt_nil (W : World) : RowAt W (fun _ => True) none 0 0 [] := ⟨Nat.le_refl _, Nat.zero_le _, fun _ => rfl, fun j u hu => by simp at hu⟩
theorem u8_of (n : Int) (h : 0 ≤ n ∧ n ≤ 255) : U8 n := h
theorem i64_of (n : Int) (h : -100000 ≤ n ∧ n ≤ 100000) : I64 n := ⟨by omega, by omega⟩
theorem aw_start (w w6 : World) (hw6 : ((((((w.alloc (.cells #[.int .u8 1, .string ⟨#[120]⟩, .int .i64 0, .slice none 0 0, .slice none 0 0, .int .i64 0] 40)).alloc (.cells #[.int .u8 1, .string ⟨#[]⟩, .int .i64 2, .slice none 0 0, .int .i64 0] 25)).alloc (.cells #[.int .u8 1, .string ⟨#[]⟩, .int .i64 1, .slice none 0 0, .int .i64 0, .int .u8 4, .string ⟨#[97]⟩, .int .i64 0, .slice (some ⟨w.heap.size + 1, 0, none⟩) 1 1, .int .i64 0] 25)).alloc (.cells #[.int .u8 7, .string ⟨#[]⟩, .int .i64 0, .slice (some ⟨w.heap.size + 1 + 1, 0, none⟩) 2 2, .int .i64 0] 25)).alloc (.cells #[.int .u8 7, .string ⟨#[]⟩, .string ⟨#[]⟩, .bool false, .slice (some ⟨w.heap.size + 1 + 1 + 1, 0, none⟩) 1 1, .slice none 0 0, .slice none 0 0, .int .i64 0] 38)).alloc (.cells #[.int .u8 5, .string ⟨#[116]⟩, .int .i64 0, .slice none 0 0, .slice (some ⟨w.heap.size + 1 + 1 + 1 + 1, 0, none⟩) 1 1, .int .i64 0] 40)) = w6) : w6.heap.size = w.heap.size + 6 ∧ Aw w w.heap.size w6 ∧ De.In w6 (fun _ => True) dG ∧ De.In w6 (fun _ => True) (dT w.heap.size) := by
  obtain ⟨v1, hv1⟩ : ∃ W, w.alloc (.cells #[.int .u8 1, .string ⟨#[120]⟩, .int .i64 0, .slice none 0 0, .slice none 0 0, .int .i64 0] 40) = W := ⟨_, rfl⟩
  rw [hv1] at hw6
  have hb1 : Below w.heap.size w v1 := by rw [← hv1]; exact (Below.refl _ _).alloc (Nat.le_refl _) _
  have hs1 : v1.heap.size = w.heap.size + 1 := by rw [← hv1]; simp
  have hn1 : v1.heap[w.heap.size]? = some (.cells #[.int .u8 1, .string ⟨#[120]⟩, .int .i64 0, .slice none 0 0, .slice none 0 0, .int .i64 0] 40 (0, 0)) := by rw [← hv1]; exact World.alloc_heap_new _ _
  obtain ⟨v2, hv2⟩ : ∃ W, v1.alloc (.cells #[.int .u8 1, .string ⟨#[]⟩, .int .i64 2, .slice none 0 0, .int .i64 0] 25) = W := ⟨_, rfl⟩
  rw [hv2] at hw6
  have hb2 : Below v1.heap.size v1 v2 := by rw [← hv2]; exact (Below.refl _ _).alloc (Nat.le_refl _) _
  have hs2 : v2.heap.size = w.heap.size + 2 := by rw [← hv2]; simp; omega
  have hn2 : v2.heap[w.heap.size + 1]? = some (.cells #[.int .u8 1, .string ⟨#[]⟩, .int .i64 2, .slice none 0 0, .int .i64 0] 25 (0, 0)) := by rw [← hv2, ← hs1]; exact World.alloc_heap_new _ _
  obtain ⟨v3, hv3⟩ : ∃ W, v2.alloc (.cells #[.int .u8 1, .string ⟨#[]⟩, .int .i64 1, .slice none 0 0, .int .i64 0, .int .u8 4, .string ⟨#[97]⟩, .int .i64 0, .slice (some ⟨w.heap.size + 1, 0, none⟩) 1 1, .int .i64 0] 25) = W := ⟨_, rfl⟩
  rw [hv3] at hw6
  have hb3 : Below v2.heap.size v2 v3 := by rw [← hv3]; exact (Below.refl _ _).alloc (Nat.le_refl _) _
  have hs3 : v3.heap.size = w.heap.size + 3 := by rw [← hv3]; simp; omega
  have hn3 : v3.heap[w.heap.size + 2]? = some (.cells #[.int .u8 1, .string ⟨#[]⟩, .int .i64 1, .slice none 0 0, .int .i64 0, .int .u8 4, .string ⟨#[97]⟩, .int .i64 0, .slice (some ⟨w.heap.size + 1, 0, none⟩) 1 1, .int .i64 0] 25 (0, 0)) := by rw [← hv3, ← hs2]; exact World.alloc_heap_new _ _
  obtain ⟨v4, hv4⟩ : ∃ W, v3.alloc (.cells #[.int .u8 7, .string ⟨#[]⟩, .int .i64 0, .slice (some ⟨w.heap.size + 1 + 1, 0, none⟩) 2 2, .int .i64 0] 25) = W := ⟨_, rfl⟩
  rw [hv4] at hw6
  have hb4 : Below v3.heap.size v3 v4 := by rw [← hv4]; exact (Below.refl _ _).alloc (Nat.le_refl _) _
  have hs4 : v4.heap.size = w.heap.size + 4 := by rw [← hv4]; simp; omega
  have hn4 : v4.heap[w.heap.size + 3]? = some (.cells #[.int .u8 7, .string ⟨#[]⟩, .int .i64 0, .slice (some ⟨w.heap.size + 1 + 1, 0, none⟩) 2 2, .int .i64 0] 25 (0, 0)) := by rw [← hv4, ← hs3]; exact World.alloc_heap_new _ _
  obtain ⟨v5, hv5⟩ : ∃ W, v4.alloc (.cells #[.int .u8 7, .string ⟨#[]⟩, .string ⟨#[]⟩, .bool false, .slice (some ⟨w.heap.size + 1 + 1 + 1, 0, none⟩) 1 1, .slice none 0 0, .slice none 0 0, .int .i64 0] 38) = W := ⟨_, rfl⟩
  rw [hv5] at hw6
  have hb5 : Below v4.heap.size v4 v5 := by rw [← hv5]; exact (Below.refl _ _).alloc (Nat.le_refl _) _
  have hs5 : v5.heap.size = w.heap.size + 5 := by rw [← hv5]; simp; omega
  have hn5 : v5.heap[w.heap.size + 4]? = some (.cells #[.int .u8 7, .string ⟨#[]⟩, .string ⟨#[]⟩, .bool false, .slice (some ⟨w.heap.size + 1 + 1 + 1, 0, none⟩) 1 1, .slice none 0 0, .slice none 0 0, .int .i64 0] 38 (0, 0)) := by rw [← hv5, ← hs4]; exact World.alloc_heap_new _ _
  obtain ⟨v6, hv6⟩ : ∃ W, v5.alloc (.cells #[.int .u8 5, .string ⟨#[116]⟩, .int .i64 0, .slice none 0 0, .slice (some ⟨w.heap.size + 1 + 1 + 1 + 1, 0, none⟩) 1 1, .int .i64 0] 40) = W := ⟨_, rfl⟩
  rw [hv6] at hw6
  have hb6 : Below v5.heap.size v5 v6 := by rw [← hv6]; exact (Below.refl _ _).alloc (Nat.le_refl _) _
  have hs6 : v6.heap.size = w.heap.size + 6 := by rw [← hv6]; simp; omega
  have hn6 : v6.heap[w.heap.size + 5]? = some (.cells #[.int .u8 5, .string ⟨#[116]⟩, .int .i64 0, .slice none 0 0, .slice (some ⟨w.heap.size + 1 + 1 + 1 + 1, 0, none⟩) 1 1, .int .i64 0] 40 (0, 0)) := by rw [← hv6, ← hs5]; exact World.alloc_heap_new _ _
  subst hw6
  replace hn1 := (hb2.block _ (by omega)).trans hn1
  replace hn1 := (hb3.block _ (by omega)).trans hn1
  replace hn1 := (hb4.block _ (by omega)).trans hn1
  replace hn1 := (hb5.block _ (by omega)).trans hn1
  replace hn1 := (hb6.block _ (by omega)).trans hn1
  replace hn2 := (hb3.block _ (by omega)).trans hn2
  replace hn2 := (hb4.block _ (by omega)).trans hn2
  replace hn2 := (hb5.block _ (by omega)).trans hn2
  replace hn2 := (hb6.block _ (by omega)).trans hn2
  replace hn3 := (hb4.block _ (by omega)).trans hn3
  replace hn3 := (hb5.block _ (by omega)).trans hn3
  replace hn3 := (hb6.block _ (by omega)).trans hn3
  replace hn4 := (hb5.block _ (by omega)).trans hn4
  replace hn4 := (hb6.block _ (by omega)).trans hn4
  replace hn5 := (hb6.block _ (by omega)).trans hn5
  have key : ∀ {vs : Array Value} {t : TypeId} {b : Nat}, v6.heap[b]? = some (.cells vs t (0, 0)) → ∀ j u, vs[j]? = some u → v6.cell? ⟨b, j, none⟩ = some u := fun h j u hu => by simp only [World.cell?, h]; simpa using hu
  have hbb : Below w.heap.size w v6 := ((((hb1.trans (hb2.mono (by omega))).trans (hb3.mono (by omega))).trans (hb4.mono (by omega))).trans (hb5.mono (by omega))).trans (hb6.mono (by omega))
  have r1 := rowAt_block hn2 1 (by omega) (exCells [eTwo]) rfl
  have r2 := rowAt_block hn3 2 (by omega) (exCells [eOne, eIdx w.heap.size]) rfl
  have r3 := rowAt_block hn4 1 (by omega) (exCells [eAdd w.heap.size]) rfl
  have r4 := rowAt_block hn5 1 (by omega) (stCells [sPrint w.heap.size]) rfl
  have i1 : Ex.In v6 (fun _ => True) eTwo := by
    unfold eTwo; unfold Ex.In Ex.InL
    exact ⟨u8_of _ (by omega), by unfold maxLen; decide, i64_of _ (by omega), i64_of _ (by omega), rowAt_nil _, trivial⟩
  have i2 : Ex.In v6 (fun _ => True) eOne := by
    unfold eOne; unfold Ex.In Ex.InL
    exact ⟨u8_of _ (by omega), by unfold maxLen; decide, i64_of _ (by omega), i64_of _ (by omega), rowAt_nil _, trivial⟩
  have i3 : Ex.In v6 (fun _ => True) (eIdx w.heap.size) := by
    unfold eIdx; unfold Ex.In Ex.InL Ex.InL
    exact ⟨u8_of _ (by omega), by unfold maxLen; decide, i64_of _ (by omega), i64_of _ (by omega), r1, i1, trivial⟩
  have i4 : Ex.In v6 (fun _ => True) (eAdd w.heap.size) := by
    unfold eAdd; unfold Ex.In Ex.InL Ex.InL Ex.InL
    exact ⟨u8_of _ (by omega), by unfold maxLen; decide, i64_of _ (by omega), i64_of _ (by omega), r2, i2, i3, trivial⟩
  have i5 : St.In v6 (fun _ => True) (sPrint w.heap.size) := by
    unfold sPrint; unfold St.In St.InL Ex.InL Ex.InL
    exact ⟨u8_of _ (by omega), by unfold maxLen; decide, by unfold maxLen; decide, i64_of _ (by omega), r3, ⟨i4, trivial⟩, rowAt_nil _, trivial, rowAt_nil _, trivial⟩
  refine ⟨hs6, ⟨hbb, ⟨key hn1 0 _ rfl, key hn1 1 _ rfl, key hn1 2 _ rfl, key hn1 3 _ rfl, key hn1 4 _ rfl, key hn1 5 _ rfl⟩, ⟨key hn6 0 _ rfl, key hn6 1 _ rfl, key hn6 2 _ rfl, key hn6 3 _ rfl, key hn6 4 _ rfl, key hn6 5 _ rfl⟩⟩, ?_, ?_⟩
  · exact ⟨u8_of _ (by unfold dG; simp only; omega), by unfold maxLen; decide, i64_of _ (by unfold dG; simp only; omega), i64_of _ (by unfold dG; simp only; omega), rowAt_nil _, by simp [dG], rowAt_nil _, by unfold dG; simp only; unfold St.InL; trivial⟩
  · exact ⟨u8_of _ (by unfold dT; simp only; omega), by unfold maxLen dT; simp only; decide, i64_of _ (by unfold dT; simp only; omega), i64_of _ (by unfold dT; simp only; omega), rowAt_nil _, by simp [dT], r4, by unfold dT; simp only; unfold St.InL St.InL; exact ⟨i5, trivial⟩⟩

set_option maxHeartbeats 3200000 in
set_option maxRecDepth 100000 in
theorem awake_any (w : World) (ht : TabsD w) :
    Calls Tryd.prog 10 #[] w fun e w' => e = .returned (.bool true) ∧ Below w.heap.size w w' := by
  go_enter Tryd.func10, Tryd.ntmps10
  go_wp2_with fail
  obtain ⟨w6, hw6⟩ : ∃ W, ((((((w.alloc (.cells #[.int .u8 1, .string ⟨#[120]⟩, .int .i64 0, .slice none 0 0, .slice none 0 0, .int .i64 0] 40)).alloc (.cells #[.int .u8 1, .string ⟨#[]⟩, .int .i64 2, .slice none 0 0, .int .i64 0] 25)).alloc (.cells #[.int .u8 1, .string ⟨#[]⟩, .int .i64 1, .slice none 0 0, .int .i64 0, .int .u8 4, .string ⟨#[97]⟩, .int .i64 0, .slice (some ⟨w.heap.size + 1, 0, none⟩) 1 1, .int .i64 0] 25)).alloc (.cells #[.int .u8 7, .string ⟨#[]⟩, .int .i64 0, .slice (some ⟨w.heap.size + 1 + 1, 0, none⟩) 2 2, .int .i64 0] 25)).alloc (.cells #[.int .u8 7, .string ⟨#[]⟩, .string ⟨#[]⟩, .bool false, .slice (some ⟨w.heap.size + 1 + 1 + 1, 0, none⟩) 1 1, .slice none 0 0, .slice none 0 0, .int .i64 0] 38)).alloc (.cells #[.int .u8 5, .string ⟨#[116]⟩, .int .i64 0, .slice none 0 0, .slice (some ⟨w.heap.size + 1 + 1 + 1 + 1, 0, none⟩) 1 1, .int .i64 0] 40)) = W := ⟨_, rfl⟩
  obtain ⟨hs6, hA, hG, hT⟩ := aw_start w w6 hw6
  rw [hw6]
  have htt := ht.below hA.below
  have hez : w.heap.size + 1 + 1 + 1 + 1 + 1 + 1 = w6.heap.size := by omega
  rw [hez]
  have hwp : Hid (w.heap.size = w.heap.size) := Lib.hid rfl
  obtain ⟨p, hp⟩ : ∃ p, w.heap.size = p := ⟨_, rfl⟩
  rw [hp] at hA hT ⊢
  replace hp := Lib.hid hp
  clear hez hw6 hwp
  have hin := fun V (h : Below w6.heap.size w6 V) => And.intro (hG.below (Kps.of_below (S := fun _ => True) h)) (And.intro (hT.below (Kps.of_below (S := fun _ => True) h)) (htt.below h))
  have one := fun V (d : De) (h : De.In V (fun _ => True) d) (h2 : TabsD V) => And.intro (one_de d V h).1 (And.intro (one_de d V h).2 (h2.below ((Below.refl _ _).alloc (Nat.le_refl _) (.cells ⟨d.vals⟩ 40))))
  have cMG := fun V (h : Below w6.heap.size w6 V) => have x := one V dG (hin V h).1 (hin V h).2.2; mayP_any [dG] (some ⟨V.heap.size, 0, none⟩) 1 _ x.1 x.2.1 (by rw [szG]; omega) x.2.2
  have cMT := fun V (h : Below w6.heap.size w6 V) => have x := one V (dT p) (hin V h).2.1 (hin V h).2.2; mayP_any [dT p] (some ⟨V.heap.size, 0, none⟩) 1 _ x.1 x.2.1 (by rw [szT]; omega) x.2.2
  have cDG := fun V (h : Below w6.heap.size w6 V) => have x := one V dG (hin V h).1 (hin V h).2.2; callsIn_wide.1 (depth_in 1 [dG] (some ⟨V.heap.size, 0, none⟩) 1 _ x.1 x.2.1 (by rw [szG]; omega))
  have cDT := fun V (h : Below w6.heap.size w6 V) => have x := one V (dT p) (hin V h).2.1 (hin V h).2.2; callsIn_wide.1 (depth_in 1 [dT p] (some ⟨V.heap.size, 0, none⟩) 1 _ x.1 x.2.1 (by rw [szT]; omega))
  have cSG := fun V (h : Below w6.heap.size w6 V) => have x := one V dG (hin V h).1 (hin V h).2.2; callsIn_wide.1 (size_in 1 [dG] (some ⟨V.heap.size, 0, none⟩) 1 _ x.1 x.2.1 (by rw [szG]; omega) (by simp) (by rw [lenG]; omega))
  have cST := fun V (h : Below w6.heap.size w6 V) => have x := one V (dT p) (hin V h).2.1 (hin V h).2.2; callsIn_wide.1 (size_in 1 [dT p] (some ⟨V.heap.size, 0, none⟩) 1 _ x.1 x.2.1 (by rw [szT]; omega) (by simp) (by rw [lenT]; omega))
  have cGT : ∀ V, Below w6.heap.size w6 V → Calls Tryd.prog 17 #[.slice (some ⟨V.heap.size, 0, none⟩) 1 1, .slice (some ⟨V.heap.size + 1, 0, none⟩) 1 1] ((V.alloc (.cells ⟨dG.vals⟩ 40)).alloc (.cells ⟨(dT p).vals⟩ 40)) fun x w' => x = .returned (.bool (sameDL [dG] [dT p])) ∧ Below ((V.alloc (.cells ⟨dG.vals⟩ 40)).alloc (.cells ⟨(dT p).vals⟩ 40)).heap.size ((V.alloc (.cells ⟨dG.vals⟩ 40)).alloc (.cells ⟨(dT p).vals⟩ 40)) w' := fun V h => have x := one V dG (hin V h).1 (hin V h).2.2; have y := one (V.alloc (.cells ⟨dG.vals⟩ 40)) (dT p) (De.In.below (Kps.alloc _ _) (hin V h).2.1) x.2.2;
    sameP_any [dG] [dT p] (some ⟨V.heap.size, 0, none⟩) (some ⟨V.heap.size + 1, 0, none⟩) 1 1 ((V.alloc (.cells ⟨dG.vals⟩ 40)).alloc (.cells ⟨(dT p).vals⟩ 40)) (x.1.below (Kps.alloc _ _)) (by have := y.1; rwa [World.size_alloc] at this) (De.InL.below (Kps.alloc _ _) x.2.1) y.2.1
  have cNX := fun V (h : Below w6.heap.size w6 V) => tname_any ⟨#[120]⟩ V (by unfold maxLen; decide) (hin V h).2.2.sg
  have cNI := fun V (h : Below w6.heap.size w6 V) => tname_any ⟨#[105, 102]⟩ V (by unfold maxLen; decide) (hin V h).2.2.sg
  rw [mayG] at cMG
  rw [mayT] at cMT
  rw [depG] at cDG
  rw [depT] at cDT
  rw [lenG] at cSG
  rw [lenT] at cST
  rw [sameGT] at cGT
  simp only [nmeX] at cNX
  simp only [nmeIf] at cNI
  replace cMG := Lib.hid cMG
  replace cMT := Lib.hid cMT
  replace cDG := Lib.hid cDG
  replace cDT := Lib.hid cDT
  replace cSG := Lib.hid cSG
  replace cST := Lib.hid cST
  replace cGT := Lib.hid cGT
  replace cNX := Lib.hid cNX
  replace cNI := Lib.hid cNI
  replace hA := Lib.hid hA
  clear hG hT ht htt hin one
  have hB0 : Below w6.heap.size w6 w6 := Below.refl _ _
  have c0 : Calls Tryd.prog 11 #[.slice (some ⟨w6.heap.size, 0, none⟩) 1 1] (w6.alloc (.cells #[.int .u8 1, .string ⟨#[120]⟩, .int .i64 0, .slice none 0 0, .slice none 0 0, .int .i64 0] 40)) _ := cMG.out w6 hB0
  refine c0.mono ?_
  rintro e V1 ⟨rfl, hb⟩
  have hB1 : Below w6.heap.size w6 V1 := ((hB0.alloc hB0.size _).trans (hb.mono (by simp)))
  clear hb
  obtain ⟨_, ⟨g0, g1, g2, g3, g4, g5⟩, ⟨t0, t1, t2, t3, t4, t5⟩⟩ := hA.out.next hB1
  have c1 : Calls Tryd.prog 13 #[.slice (some ⟨V1.heap.size, 0, none⟩) 1 1] (V1.alloc (.cells #[.int .u8 1, .string ⟨#[120]⟩, .int .i64 0, .slice none 0 0, .slice none 0 0, .int .i64 0] 40)) _ := cDG.out V1 hB1
  replace c1 := Lib.hid c1
  replace hB1 := Lib.hid hB1
  go_wp2_with fail
  refine c1.out.mono ?_
  rintro e V2 ⟨rfl, hb⟩
  have hB2 : Below w6.heap.size w6 V2 := ((hB1.out.alloc hB1.out.size _).trans (hb.mono (by have := hB1.out.size; simp; omega)))
  clear hb g0 g1 g2 g3 g4 g5 t0 t1 t2 t3 t4 t5
  obtain ⟨_, ⟨g0, g1, g2, g3, g4, g5⟩, ⟨t0, t1, t2, t3, t4, t5⟩⟩ := hA.out.next hB2
  have c2 : Calls Tryd.prog 15 #[.slice (some ⟨V2.heap.size, 0, none⟩) 1 1] (V2.alloc (.cells #[.int .u8 1, .string ⟨#[120]⟩, .int .i64 0, .slice none 0 0, .slice none 0 0, .int .i64 0] 40)) _ := cSG.out V2 hB2
  replace c2 := Lib.hid c2
  replace hB2 := Lib.hid hB2
  go_wp2_with fail
  refine c2.out.mono ?_
  rintro e V3 ⟨rfl, hb⟩
  have hB3 : Below w6.heap.size w6 V3 := ((hB2.out.alloc hB2.out.size _).trans (hb.mono (by have := hB2.out.size; simp; omega)))
  clear hb g0 g1 g2 g3 g4 g5 t0 t1 t2 t3 t4 t5
  obtain ⟨_, ⟨g0, g1, g2, g3, g4, g5⟩, ⟨t0, t1, t2, t3, t4, t5⟩⟩ := hA.out.next hB3
  have c3 : Calls Tryd.prog 11 #[.slice (some ⟨V3.heap.size, 0, none⟩) 1 1] (V3.alloc (.cells #[.int .u8 5, .string ⟨#[116]⟩, .int .i64 0, .slice none 0 0, .slice (some ⟨p + 1 + 1 + 1 + 1, 0, none⟩) 1 1, .int .i64 0] 40)) _ := cMT.out V3 hB3
  replace c3 := Lib.hid c3
  replace hB3 := Lib.hid hB3
  go_wp2_with fail
  refine c3.out.mono ?_
  rintro e V4 ⟨rfl, hb⟩
  have hB4 : Below w6.heap.size w6 V4 := ((hB3.out.alloc hB3.out.size _).trans (hb.mono (by have := hB3.out.size; simp; omega)))
  clear hb g0 g1 g2 g3 g4 g5 t0 t1 t2 t3 t4 t5
  obtain ⟨_, ⟨g0, g1, g2, g3, g4, g5⟩, ⟨t0, t1, t2, t3, t4, t5⟩⟩ := hA.out.next hB4
  have c4 : Calls Tryd.prog 13 #[.slice (some ⟨V4.heap.size, 0, none⟩) 1 1] (V4.alloc (.cells #[.int .u8 5, .string ⟨#[116]⟩, .int .i64 0, .slice none 0 0, .slice (some ⟨p + 1 + 1 + 1 + 1, 0, none⟩) 1 1, .int .i64 0] 40)) _ := cDT.out V4 hB4
  replace c4 := Lib.hid c4
  replace hB4 := Lib.hid hB4
  go_wp2_with fail
  refine c4.out.mono ?_
  rintro e V5 ⟨rfl, hb⟩
  have hB5 : Below w6.heap.size w6 V5 := ((hB4.out.alloc hB4.out.size _).trans (hb.mono (by have := hB4.out.size; simp; omega)))
  clear hb g0 g1 g2 g3 g4 g5 t0 t1 t2 t3 t4 t5
  obtain ⟨_, ⟨g0, g1, g2, g3, g4, g5⟩, ⟨t0, t1, t2, t3, t4, t5⟩⟩ := hA.out.next hB5
  have c5 : Calls Tryd.prog 15 #[.slice (some ⟨V5.heap.size, 0, none⟩) 1 1] (V5.alloc (.cells #[.int .u8 5, .string ⟨#[116]⟩, .int .i64 0, .slice none 0 0, .slice (some ⟨p + 1 + 1 + 1 + 1, 0, none⟩) 1 1, .int .i64 0] 40)) _ := cST.out V5 hB5
  replace c5 := Lib.hid c5
  replace hB5 := Lib.hid hB5
  go_wp2_with fail
  refine c5.out.mono ?_
  rintro e V6 ⟨rfl, hb⟩
  have hB6 : Below w6.heap.size w6 V6 := ((hB5.out.alloc hB5.out.size _).trans (hb.mono (by have := hB5.out.size; simp; omega)))
  clear hb g0 g1 g2 g3 g4 g5 t0 t1 t2 t3 t4 t5
  obtain ⟨_, ⟨g0, g1, g2, g3, g4, g5⟩, ⟨t0, t1, t2, t3, t4, t5⟩⟩ := hA.out.next hB6
  have tt0 := fun o => below_in ((Below.refl _ _).alloc (Nat.le_refl _) o) t0
  have tt1 := fun o => below_in ((Below.refl _ _).alloc (Nat.le_refl _) o) t1
  have tt2 := fun o => below_in ((Below.refl _ _).alloc (Nat.le_refl _) o) t2
  have tt3 := fun o => below_in ((Below.refl _ _).alloc (Nat.le_refl _) o) t3
  have tt4 := fun o => below_in ((Below.refl _ _).alloc (Nat.le_refl _) o) t4
  have tt5 := fun o => below_in ((Below.refl _ _).alloc (Nat.le_refl _) o) t5
  have c6 : Calls Tryd.prog 17 #[.slice (some ⟨V6.heap.size, 0, none⟩) 1 1, .slice (some ⟨V6.heap.size + 1, 0, none⟩) 1 1] ((V6.alloc (.cells #[.int .u8 1, .string ⟨#[120]⟩, .int .i64 0, .slice none 0 0, .slice none 0 0, .int .i64 0] 40)).alloc (.cells #[.int .u8 5, .string ⟨#[116]⟩, .int .i64 0, .slice none 0 0, .slice (some ⟨p + 1 + 1 + 1 + 1, 0, none⟩) 1 1, .int .i64 0] 40)) _ := cGT.out V6 hB6
  replace c6 := Lib.hid c6
  replace hB6 := Lib.hid hB6
  go_wp2_with fail
  refine c6.out.mono ?_
  rintro e V7 ⟨rfl, hb⟩
  have hB7 : Below w6.heap.size w6 V7 := (((hB6.out.alloc hB6.out.size _).alloc (by have := hB6.out.size; simp; omega) _).trans (hb.mono (by have := hB6.out.size; simp; omega)))
  clear hb tt0 tt1 tt2 tt3 tt4 tt5
  have c7 := cNX.out V7 hB7
  replace c7 := Lib.hid c7
  replace hB7 := Lib.hid hB7
  go_wp2_with fail
  refine c7.out.mono ?_
  rintro e V8 ⟨rfl, hb⟩
  have hB8 : Below w6.heap.size w6 V8 := (hB7.out.trans (hb.mono (by have := hB7.out.size; omega)))
  clear hb
  have c8 := cNI.out V8 hB8
  replace c8 := Lib.hid c8
  replace hB8 := Lib.hid hB8
  go_wp2_with fail
  refine c8.out.mono ?_
  rintro e V9 ⟨rfl, hb⟩
  have hB9 : Below w6.heap.size w6 V9 := (hB8.out.trans (hb.mono (by have := hB8.out.size; omega)))
  clear hb
  have hfin := hA.out.below.trans (hB9.mono hA.out.below.size)
  replace hB9 := Lib.hid hB9
  replace hfin := Lib.hid hfin
  go_wp2_with fail
  go_ret
  exact ⟨rfl, hfin.out⟩
end Go.Proofs.YtolmhcdcfnoicaaDoor.Tr
