/- Walks of tree.fitsName, fitsTo, fitsExpr. Conditions: the package's tables hold their lists. -/
import Derived.Test.YtolmhcdcfnoicaaDoorTrA
namespace Go.Proofs.YtolmhcdcfnoicaaDoor.Tr
open Go Go.RowKit
open Go.Proofs.YtolmhcdcfnoicaaDoor.Lx

/-- what a Kind of expressions has -/
def exName (k : Int) : Bool := k == 3 || k == 4
def exMost (k : Int) : Int := if k = 1 then 9223372036854775807 else if k = 2 then 1 else 0
def exArgs (k : Int) : Int := if 7 ≤ k then 2 else if 4 ≤ k then 1 else 0
def exVals : Array Value := ((List.range 18).flatMap fun (i : Nat) => [Value.bool (exName (i : Int)), .int .i64 (exMost (i : Int)), .int .i64 (exArgs (i : Int))]).toArray
def ExTab (w : World) : Prop := ∃ t fr, w.heap[2]? = some (.cells exVals t fr)
theorem exTab_at {w : World} (h : ExTab w) (k : Int) (h0 : 0 ≤ k) (h1 : k ≤ 17) :
    w.cell? ⟨2, k.toNat * 3, none⟩ = some (.bool (exName k)) ∧ w.cell? ⟨2, k.toNat * 3 + 1, none⟩ = some (.int .i64 (exMost k)) ∧ w.cell? ⟨2, k.toNat * 3 + 2, none⟩ = some (.int .i64 (exArgs k)) := by
  obtain ⟨t, fr, hg⟩ := h
  obtain ⟨m, rfl⟩ : ∃ m : Nat, k = m := ⟨k.toNat, by omega⟩
  rw [Int.toNat_natCast]
  have hc : ∀ j, w.cell? ⟨2, j, none⟩ = exVals[j]? := fun j => by simp [World.cell?, hg]
  rw [hc, hc, hc]
  have hm : m < 18 := by omega
  clear hg hc h0 h1
  have hd : m = 0 ∨ m = 1 ∨ m = 2 ∨ m = 3 ∨ m = 4 ∨ m = 5 ∨ m = 6 ∨ m = 7 ∨ m = 8 ∨ m = 9 ∨ m = 10 ∨ m = 11 ∨ m = 12 ∨ m = 13 ∨ m = 14 ∨ m = 15 ∨ m = 16 ∨ m = 17 := by omega
  rcases hd with rfl | rfl | rfl | rfl | rfl | rfl | rfl | rfl | rfl | rfl | rfl | rfl | rfl | rfl | rfl | rfl | rfl | rfl <;> exact ⟨rfl, rfl, rfl⟩
theorem _root_.Go.Proofs.YtolmhcdcfnoicaaDoor.Lx.SignsIn.lt {w : World} (h : SignsIn w) : 3 < w.heap.size := by
  obtain ⟨t, fr, hg⟩ := h
  exact (Array.getElem?_eq_some_iff.1 hg).1
/-- does a text stand where it is asked, and else nothing? -/
def fitNm (s : ByteArray) (b : Bool) : Bool := if b then nme s.data.toList else s.data.toList.isEmpty

theorem bcell {W w1 : World} (hb : Below W.heap.size W w1) : (∀ b o, b < W.heap.size → w1.cell? ⟨b, o, none⟩ = W.cell? ⟨b, o, none⟩) ∧ (∀ b o, b < W.heap.size → w1.frozen? ⟨b, o, none⟩ = W.frozen? ⟨b, o, none⟩) :=
  ⟨fun b o h => hb.cell (p := ⟨b, o, none⟩) h, fun b o h => hb.frozen (p := ⟨b, o, none⟩) h⟩
theorem fitNm_no (s : ByteArray) : s.toList.isEmpty = fitNm s false := by rw [Lib.toList_data]; rfl
set_option maxHeartbeats 400000 in
theorem tname_any (s : ByteArray) (w : World) (hs : s.size ≤ maxLen) (hsg : SignsIn w) :
    Calls Tryd.prog 23 #[.string s] w fun e w' => e = .returned (.bool (nme s.data.toList)) ∧ Below w.heap.size w w' := by
  go_enter Tryd.func23, Tryd.ntmps23
  go_wp2_with fail
  refine (name_any s _ hs hsg).mono ?_
  rintro e w' ⟨rfl, hb⟩
  go_wp2_with fail
  go_ret
  exact ⟨rfl, hb⟩
set_option maxHeartbeats 400000 in
theorem fitNm_any (s : ByteArray) (b : Bool) (w : World) (hs : s.size ≤ maxLen) (hsg : SignsIn w) :
    Calls Tryd.prog 66 #[.string s, .bool b] w fun e w' => e = .returned (.bool (fitNm s b)) ∧ Below w.heap.size w w' := by
  cases b
  · go_enter Tryd.func66, Tryd.ntmps66
    go_wp2_with fail
    go_ret
    exact ⟨ret_bool (fitNm_no s), Below.refl _ _⟩
  · go_enter Tryd.func66, Tryd.ntmps66
    go_wp2_with fail
    refine (tname_any s _ hs hsg).mono ?_
    rintro e w' ⟨rfl, hb⟩
    go_wp2_with fail
    go_ret
    exact ⟨rfl, hb⟩
def fitE : Ex → Bool
  | .mk k nm n _ _ args _ => decide (1 ≤ k) && decide (k ≤ 17) && (fitNm nm (exName k) && decide (0 ≤ n) && decide (n ≤ exMost k) && decide ((args.length : Int) = exArgs k))
theorem fitE_eq (k : Int) (nm : ByteArray) (n : Int) (a : Option Addr) (cap : Nat) (args : List Ex) (pos : Int) : fitE (.mk k nm n a cap args pos) = (decide (1 ≤ k) && decide (k ≤ 17) && (fitNm nm (exName k) && decide (0 ≤ n) && decide (n ≤ exMost k) && decide ((args.length : Int) = exArgs k))) := rfl

set_option maxHeartbeats 800000 in
theorem fitE_any (k : Int) (nm : ByteArray) (n : Int) (a : Option Addr) (cap : Nat) (args : List Ex) (pos : Int) (w : World) (hk : U8 k) (hs : nm.size ≤ maxLen) (hn : I64 n) (hsg : SignsIn w) (ht : ExTab w) :
    Calls Tryd.prog 50 #[.agg #[.int .u8 k, .string nm, .int .i64 n, .slice a args.length cap, .int .i64 pos]] w fun e w' => e = .returned (.bool (fitE (.mk k nm n a cap args pos))) ∧ Below w.heap.size w w' := by
  unfold U8 at hk
  by_cases h1 : k < 1
  · go_enter Tryd.func50, Tryd.ntmps50
    go_wp2_with fail
    go_ret
    exact ⟨ret_bool (by rw [fitE_eq, decide_eq_false (by omega : ¬ 1 ≤ k)]; rfl), (Below.refl _ _).alloc (Nat.le_refl _) _⟩
  · by_cases h17 : 17 < k
    · go_enter Tryd.func50, Tryd.ntmps50
      go_wp2_with fail
      go_ret
      exact ⟨ret_bool (by rw [fitE_eq, decide_eq_false (by omega : ¬ k ≤ 17), Bool.and_false]; rfl), (Below.refl _ _).alloc (Nat.le_refl _) _⟩
    · obtain ⟨c0, c1, c2⟩ := exTab_at ht k (by omega) (by omega)
      have hz2 : 2 < w.heap.size := World.block_lt_of_cell? _ _ c0
      replace c0 := fun o => (World.cell?_alloc_lt w o ⟨2, k.toNat * 3, none⟩ hz2).trans c0
      replace c1 := fun o => (World.cell?_alloc_lt w o ⟨2, k.toNat * 3 + 1, none⟩ hz2).trans c1
      replace c2 := fun o => (World.cell?_alloc_lt w o ⟨2, k.toNat * 3 + 2, none⟩ hz2).trans c2
      have hcall := fun W h => fitNm_any nm (exName k) W hs h
      have HD := Lib.hid (fitE_eq k nm n a cap args pos)
      rw [decide_eq_true (by omega : 1 ≤ k), decide_eq_true (by omega : k ≤ 17)] at HD
      have hg : 3 < w.heap.size := hsg.lt
      unfold I64 at hn
      generalize exName k = xn at *
      generalize exMost k = xm at *
      generalize exArgs k = xa at *
      generalize fitNm nm xn = fb at *
      replace hcall := Lib.hid hcall
      have hfin : ∀ b, b = (true && true && (fb && decide (0 ≤ n) && decide (n ≤ xm) && decide ((args.length : Int) = xa))) → Ending.returned (.bool b) = .returned (.bool (fitE (.mk k nm n a cap args pos))) := fun b hb => ret_bool (hb.trans HD.out.symm)
      replace hfin := Lib.hid hfin
      cases fb
      · go_enter Tryd.func50, Tryd.ntmps50
        go_wp2_with fail
        refine (hcall.out _ ((hsg.below hg (((Below.refl _ _).alloc (Nat.le_refl _) _).alloc (by simp) _)))).mono ?_
        rintro e w' ⟨rfl, hb⟩
        obtain ⟨hc, hf⟩ := bcell hb
        go_wp2_with fail
        go_ret
        exact ⟨hfin.out _ rfl, (((Below.refl _ _).alloc (Nat.le_refl _) _).alloc (by simp) _).trans (hb.mono (by simp; omega))⟩
      · by_cases hn0 : 0 ≤ n
        · by_cases hnm : n ≤ xm
          · go_enter Tryd.func50, Tryd.ntmps50
            go_wp2_with fail
            refine (hcall.out _ ((hsg.below hg (((Below.refl _ _).alloc (Nat.le_refl _) _).alloc (by simp) _)))).mono ?_
            rintro e w' ⟨rfl, hb⟩
            obtain ⟨hc, hf⟩ := bcell hb
            go_wp2_with fail
            go_ret
            exact ⟨hfin.out _ (by rw [decide_eq_true hn0, decide_eq_true hnm, Bool.eq_iff_iff]; simp), (((Below.refl _ _).alloc (Nat.le_refl _) _).alloc (by simp) _).trans (hb.mono (by simp; omega))⟩
          · go_enter Tryd.func50, Tryd.ntmps50
            go_wp2_with fail
            refine (hcall.out _ ((hsg.below hg (((Below.refl _ _).alloc (Nat.le_refl _) _).alloc (by simp) _)))).mono ?_
            rintro e w' ⟨rfl, hb⟩
            obtain ⟨hc, hf⟩ := bcell hb
            go_wp2_with fail
            go_ret
            exact ⟨hfin.out _ (by rw [decide_eq_true hn0, decide_eq_false (by omega : ¬ n ≤ xm)]; simp), (((Below.refl _ _).alloc (Nat.le_refl _) _).alloc (by simp) _).trans (hb.mono (by simp; omega))⟩
        · go_enter Tryd.func50, Tryd.ntmps50
          go_wp2_with fail
          refine (hcall.out _ ((hsg.below hg (((Below.refl _ _).alloc (Nat.le_refl _) _).alloc (by simp) _)))).mono ?_
          rintro e w' ⟨rfl, hb⟩
          obtain ⟨hc, hf⟩ := bcell hb
          go_wp2_with fail
          go_ret
          exact ⟨hfin.out _ (by rw [decide_eq_false (by omega : ¬ 0 ≤ n)]; simp), (((Below.refl _ _).alloc (Nat.le_refl _) _).alloc (by simp) _).trans (hb.mono (by simp; omega))⟩
end Go.Proofs.YtolmhcdcfnoicaaDoor.Tr
