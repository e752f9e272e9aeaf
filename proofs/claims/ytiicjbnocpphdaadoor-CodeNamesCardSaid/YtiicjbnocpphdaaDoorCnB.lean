/- Walks of named and threads of law07. Conditions: the number is small. -/
import Derived.Test.YtiicjbnocpphdaaDoorCnA
import Derived.BigQuiet
import Derived.Laws.BytesArg
set_option linter.unusedSimpArgs false
set_option linter.unusedVariables false
namespace Go.Proofs.YtiicjbnocpphdaaDoor.Cd
open Go Go.RowKit
open Go.Proofs.YtiicjbnocpphdaaDoor.Lx Go.Proofs.YtiicjbnocpphdaaDoor.Tr
open Go.Proofs.YtiicjbnocpphdaaDoor.Vq Go.Proofs.YtiicjbnocpphdaaDoor.Qr

def lockNm (i : Nat) : ByteArray := ⟨#[108, UInt8.ofNat (97 + i / 26), UInt8.ofNat (97 + i % 26)]⟩
def boxP (v : Value) : Obj := .cells #[.slice none 0 0, v, .slice none 0 0] 27
theorem ba_ext {a b : ByteArray} (h : a.data.toList = b.data.toList) : a = b := by
  cases a; cases b; congr 1; exact Array.toList_inj.1 h
theorem lockNm_eq (k : Nat) : (⟨#[108]⟩ : ByteArray) ++ strOfNums [97 + (k : Int) / 26, 97 + (k : Int) % 26] = lockNm k := by
  have h1 : (97 + (k : Int) / 26).toNat = 97 + k / 26 := by omega
  have h2 : (97 + (k : Int) % 26).toNat = 97 + k % 26 := by omega
  apply ba_ext
  unfold strOfNums lockNm
  simp [h1, h2]
theorem lockNm_sz (k : Nat) : (lockNm k).size = 3 := rfl
theorem conv2 (W : World) (x y : Int) : (convert 76 9 (.slice (some ⟨W.heap.size, 0, none⟩) 2 2)).run Tryd.prog (W.alloc (.cells #[.int .u8 x, .int .u8 y] 5)) = .ok (.string (strOfNums [x, y])) (W.alloc (.cells #[.int .u8 x, .int .u8 y] 5)) :=
  run_convert_bytes_arg _ 76 5 Tryd.underlying76 Tryd.underlying5 W.heap.size 0 2 2 [x, y] rfl (fun i hi => by
    have h := box_new W [.int .u8 x, .int .u8 y] 5
    match i, hi with
    | 0, _ => exact h 0 _ rfl
    | 1, _ => exact h 1 _ rfl) 9 Tryd.underlying9
theorem own_set_ne {W : World} {B b j : Nat} {e : TypeId} {c n : Nat} {v u : Value} {xs : List Value} (h : W.ownsRow B e c v n xs) (hb : b < B) : (W.setCell ⟨b, j, none⟩ u).ownsRow B e c v n xs :=
  ⟨h.1, h.2.imp id fun ⟨g, cap, cur, hv, hB, hg, hr⟩ => ⟨g, cap, cur, hv, hB, (heap_set_ne (by omega) _ _).trans hg, hr⟩⟩
set_option maxHeartbeats 4000000 in
set_option maxRecDepth 100000 in
theorem named_any (n : Nat) (w : World) (hn : n ≤ 300) :
    Calls Tryd.prog 29 #[.int .i64 n] w fun e w' => ∃ v, e = .returned v ∧ VP ⟨none, 0, [], none, 0, (List.range n).map lockNm, none, 0, []⟩ v w' ∧ Below w.heap.size w w' := by
  go_enter Tryd.func29, Tryd.ntmps29
  go_wp2_with fail
  have hW0 : ((w.alloc (boxP (.slice none 0 0))).alloc (boxP (.slice none 0 0))).heap.size = w.heap.size + 1 + 1 := by simp
  have hb0 : ((w.alloc (boxP (.slice none 0 0))).alloc (boxP (.slice none 0 0))).heap[w.heap.size]? = some (boxP (.slice none 0 0)) := (Below.heap_alloc _ _ _ (by simp)).trans (MapKept.heap_alloc w _).1
  have hb1 : ((w.alloc (boxP (.slice none 0 0))).alloc (boxP (.slice none 0 0))).heap[w.heap.size + 1]? = some (boxP (.slice none 0 0)) := blk_new _ _ (by simp)
  have hbw : Below w.heap.size w ((w.alloc (boxP (.slice none 0 0))).alloc (boxP (.slice none 0 0))) := b_alloc2 _ _ _
  unfold boxP at hW0 hb0 hb1 hbw
  go_loopw [4] (fun i wr => ∃ k : Nat, k ≤ n ∧ i = .int .i64 k ∧ ∃ a c, Hid (wr.heap[w.heap.size]? = some (.cells #[.slice none 0 0, .slice none 0 0, .slice none 0 0] 27 (0, 0))) ∧ Hid (wr.heap[w.heap.size + 1]? = some (.cells #[.slice none 0 0, .slice a k c, .slice none 0 0] 27 (0, 0))) ∧ Hid (wr.ownsRow (w.heap.size + 2) 9 1 (.slice a k c) k (strCells ((List.range k).map lockNm))) ∧ Hid (Below w.heap.size w wr)) (fun i _ => n - (intOf i).toNat)
  case atStart => exact ⟨0, Nat.zero_le _, rfl, none, 0, Lib.hid hb0, Lib.hid hb1, Lib.hid (World.ownsRow_nil _ _ _ _), Lib.hid hbw⟩
  case round =>
    obtain ⟨k, hk, rfl, a, c, g0, g1, hown, hb⟩ := hrel
    clear hb0 hb1 hbw hW0
    have y1 : wr.cell? ⟨w.heap.size + 1, 1, none⟩ = some (.slice a k c) := blk_cell g1.out rfl
    by_cases hkl : k < n
    · have hk1 : (k : Int) < (n : Int) := by omega
      have q1 : (k : Int).tdiv 26 = ((k / 26 : Nat) : Int) := rfl
      have q2 : (k : Int).tmod 26 = ((k % 26 : Nat) : Int) := rfl
      have q3 : IntKind.i64.wrap ((k / 26 : Nat) : Int) = ((k / 26 : Nat) : Int) := IntWalk.i64_in _ (by omega)
      have q4 : IntKind.i64.wrap ((k % 26 : Nat) : Int) = ((k % 26 : Nat) : Int) := IntWalk.i64_in _ (by omega)
      have hcv := conv2 wr (97 + (k : Int) / 26) (97 + (k : Int) % 26)
      have hsa := fun V => run_string_add_sum (P := Tryd.prog) V (⟨#[108]⟩ : ByteArray) (strOfNums [97 + (k : Int) / 26, 97 + (k : Int) % 26]) (by rw [strOfNums_size]; show 1 + 2 ≤ _; decide)
      rw [lockNm_eq] at hsa
      generalize strOfNums [97 + (k : Int) / 26, 97 + (k : Int) % 26] = S0 at hcv hsa
      obtain ⟨i0, hi0, hz0, hz1, hz2⟩ := info_s
      have hsz := hb.out.size
      have hbk : Hid (∀ o o' w3 q, (((wr.alloc o).alloc o').grownBy w3 q) → (∀ r, q = some r → w.heap.size + 2 ≤ r) → w3.heap[w.heap.size]? = some (.cells #[.slice none 0 0, .slice none 0 0, .slice none 0 0] 27 (0, 0)) ∧ w3.heap[w.heap.size + 1]? = some (.cells #[.slice none 0 0, .slice a k c, .slice none 0 0] 27 (0, 0)) ∧ Below w.heap.size w w3) := Lib.hid fun o o' w3 q hg hq => by
        have l0 : w.heap.size < wr.heap.size := (Array.getElem?_eq_some_iff.1 g0.out).1
        have l1 : w.heap.size + 1 < wr.heap.size := (Array.getElem?_eq_some_iff.1 g1.out).1
        refine ⟨(hg.block _ (by simp; omega) (fun e => by have := hq _ e.symm; omega)).trans (((b_alloc2 wr o o').block _ l0).trans g0.out), (hg.block _ (by simp; omega) (fun e => by have := hq _ e.symm; omega)).trans (((b_alloc2 wr o o').block _ l1).trans g1.out), ((hb.out.trans ((b_alloc2 wr o o').mono hsz))).grown hg (by simp; omega) (fun r e => by have := hq _ e; omega)⟩
      go_wp2_with (at_builtin; refine wpList_append_own_at _ rfl _ _ 24 rfl (w.heap.size + 2) 9 i0 _ 1 16 Tryd.underlying24 hi0 hz0 hz1 hz2 rfl (by decide) _ k _ rfl (own_below hown.out (b_alloc2 _ _ _)) _ 1 1 [.string (lockNm k)] rfl rfl (one_at _ _ _ _ (by first | rfl | simp)) (by simp [Value.oneCell']) (by unfold maxLen; omega) (by omega) (by have := (Array.getElem?_eq_some_iff.1 g1.out).1; simp; omega) ?_; intro v' w3 hown3 hg3 _ _; obtain ⟨m0, m1, m2⟩ := hbk.out _ _ _ _ hg3 (fun r e => (hown.out.lt r e).1); obtain ⟨g2, c2, rfl, hg2B, hR⟩ := own_R hown3 (by omega); have s0 := blk_cell m1 (j := 1) rfl; have s1 : w3.frozen? ⟨w.heap.size + 1, 1, none⟩ = false := (by simp [World.frozen?, m1]))
      have h1 : Hid ((w3.setCell ⟨w.heap.size + 1, 1, none⟩ (.slice (some ⟨g2, 0, none⟩) (k + 1) c2)).heap[w.heap.size]? = some (.cells #[.slice none 0 0, .slice none 0 0, .slice none 0 0] 27 (0, 0))) := Lib.hid ((heap_set_ne (by omega) _ _).trans m0)
      have h2 : Hid ((w3.setCell ⟨w.heap.size + 1, 1, none⟩ (.slice (some ⟨g2, 0, none⟩) (k + 1) c2)).heap[w.heap.size + 1]? = some (.cells #[.slice none 0 0, .slice (some ⟨g2, 0, none⟩) (k + 1) c2, .slice none 0 0] 27 (0, 0))) := Lib.hid (heap_set m1 1 _)
      have h3 : Hid ((w3.setCell ⟨w.heap.size + 1, 1, none⟩ (.slice (some ⟨g2, 0, none⟩) (k + 1) c2)).ownsRow (w.heap.size + 2) 9 1 (.slice (some ⟨g2, 0, none⟩) (k + 1) c2) (k + 1) (strCells ((List.range (k + 1)).map lockNm))) := Lib.hid (own_set_ne (by
        rw [List.range_succ, List.map_append]
        unfold strCells
        rw [List.map_append]
        exact hown3) (by omega))
      have h4 : Hid (Below w.heap.size w (w3.setCell ⟨w.heap.size + 1, 1, none⟩ (.slice (some ⟨g2, 0, none⟩) (k + 1) c2))) := Lib.hid (m2.setCell (p := ⟨w.heap.size + 1, 1, none⟩) (by show w.heap.size ≤ w.heap.size + 1; omega) _)
      clear hcv hsa hbk m0 m1 m2 hR hown3 hg3 s0 s1 g0 g1 hown hb y1
      go_roundw
      case rel => exact ⟨k + 1, by omega, by go_num, _, _, h1, h2, h3, h4⟩
      case measure => simp [intOf]; omega
    · have hk1 : ¬ (k : Int) < (n : Int) := by omega
      obtain rfl : k = n := by omega
      have y0 : wr.cell? ⟨w.heap.size + 1, 0, none⟩ = some (.slice none 0 0) := blk_cell g1.out rfl
      have y2 : wr.cell? ⟨w.heap.size + 1, 2, none⟩ = some (.slice none 0 0) := blk_cell g1.out rfl
      have z0 : wr.cell? ⟨w.heap.size, 0, none⟩ = some (.slice none 0 0) := blk_cell g0.out rfl
      have z1 : wr.cell? ⟨w.heap.size, 1, none⟩ = some (.slice none 0 0) := blk_cell g0.out rfl
      have z2 : wr.cell? ⟨w.heap.size, 2, none⟩ = some (.slice none 0 0) := blk_cell g0.out rfl
      have zf : ∀ j, wr.frozen? ⟨w.heap.size, j, none⟩ = false := fun j => by simp [World.frozen?, g0.out]
      have zf0 := zf 0
      have zf1 := zf 1
      have zf2 := zf 2
      obtain ⟨fa, fc, hv, hrow⟩ := own_V hown.out
      cases hv
      go_wp2_with fail
      have g5 := heap_set (heap_set (heap_set g0.out 0 (.slice none 0 0)) 1 (.slice a k c)) 2 (.slice none 0 0)
      have hbF := ((hb.out.setCell (p := ⟨w.heap.size, 0, none⟩) (Nat.le_refl _) (.slice none 0 0)).setCell (p := ⟨w.heap.size, 1, none⟩) (Nat.le_refl _) (.slice a k c)).setCell (p := ⟨w.heap.size, 2, none⟩) (Nat.le_refl _) (.slice none 0 0)
      have hrF := hrow (((wr.setCell ⟨w.heap.size, 0, none⟩ (.slice none 0 0)).setCell ⟨w.heap.size, 1, none⟩ (.slice a k c)).setCell ⟨w.heap.size, 2, none⟩ (.slice none 0 0)) (fun g hg _ => by rw [heap_set_ne (by omega), heap_set_ne (by omega), heap_set_ne (by omega)])
      generalize ((wr.setCell ⟨w.heap.size, 0, none⟩ (.slice none 0 0)).setCell ⟨w.heap.size, 1, none⟩ (.slice a k c)).setCell ⟨w.heap.size, 2, none⟩ (.slice none 0 0) = WF at *
      refine bodyPost_ret (v := .agg #[.slice none 0 0, .slice a k c, .slice none 0 0]) (results_cell_row Tryd.results29 _ _ w.heap.size _ _ _ _ rfl g5 Tryd.underlying27 rfl (by kernel_rfl)) rfl ?_
      refine ⟨_, rfl, mk_pg mms_nil ⟨a, c, by simp, by simpa using hrF, fun x hx => ?_⟩ fns_nil, hbF⟩
      obtain ⟨q, _, rfl⟩ := List.mem_map.1 hx
      rw [lockNm_sz]
      decide
def thrNm (i : Nat) : ByteArray := ⟨#[116, UInt8.ofNat (97 + i)]⟩
theorem thrNm_eq (k : Nat) : (⟨#[116]⟩ : ByteArray) ++ strOfNums [97 + (k : Int)] = thrNm k := by
  have h1 : (97 + (k : Int)).toNat = 97 + k := by omega
  apply ba_ext
  unfold strOfNums thrNm
  simp [h1]
theorem conv1 (W : World) (x : Int) : (convert 76 9 (.slice (some ⟨W.heap.size, 0, none⟩) 1 1)).run Tryd.prog (W.alloc (.cells #[.int .u8 x] 5)) = .ok (.string (strOfNums [x])) (W.alloc (.cells #[.int .u8 x] 5)) :=
  run_convert_bytes_arg _ 76 5 Tryd.underlying76 Tryd.underlying5 W.heap.size 0 1 1 [x] rfl (fun i hi => by
    have h := box_new W [.int .u8 x] 5
    match i, hi with
    | 0, _ => exact h 0 _ rfl) 9 Tryd.underlying9
def thrE (i : Nat) : Fn := ⟨thrNm i, true, 0, 1, none, 0, [⟨13, 0, 0, 0, 0, none, 0, []⟩]⟩
/-- a Fun of threads, its code in block b -/
def thrF (i b : Nat) : Fn := ⟨thrNm i, true, 0, 1, some ⟨b, 0, none⟩, 1, [⟨13, 0, 0, 0, 0, none, 0, []⟩]⟩
structure Thr (B : Nat) (q : Option Nat) (k : Nat) (l : List Fn) (W : World) : Prop where
  len : l.length = k
  ok : ∀ (i : Nat) (f : Fn), l[i]? = some f → ∃ b, f = thrF i b ∧ W.heap[b]? = some (.cells ⟨bk.vals⟩ 31 (0, 0)) ∧ B ≤ b ∧ q ≠ some b
theorem Thr.er {B : Nat} {q : Option Nat} {k : Nat} {l : List Fn} {W : World} (h : Thr B q k l W) : l.map Fn.er = (List.range k).map thrE := by
  apply List.ext_getElem?
  intro i
  rw [List.getElem?_map, List.getElem?_map]
  cases hi : l[i]? with
  | none =>
    rw [List.getElem?_eq_none_iff, h.len] at hi
    rw [List.getElem?_eq_none_iff.2 (by simpa using hi)]
    rfl
  | some f =>
    have hk : i < k := by rw [← h.len]; exact (List.getElem?_eq_some_iff.1 hi).1
    obtain ⟨b, rfl, _⟩ := h.ok i f hi
    rw [List.getElem?_range hk]
    rfl
theorem Thr.snoc {B : Nat} {q q' : Option Nat} {k b : Nat} {l : List Fn} {W W' : World} (h : Thr B q k l W) (hW : ∀ g, g < W.heap.size → B ≤ g → q ≠ some g → W'.heap[g]? = W.heap[g]?) (hq : q' = q ∨ ∃ g, q' = some g ∧ W.heap.size ≤ g ∧ g ≠ b)
    (hb : W'.heap[b]? = some (.cells ⟨bk.vals⟩ 31 (0, 0))) (hB : B ≤ b) (hb2 : W.heap.size ≤ b) (hq3 : ∀ g, q = some g → g < W.heap.size) : Thr B q' (k + 1) (l ++ [thrF k b]) W' := by
  refine ⟨by rw [List.length_append, h.len]; rfl, fun i f hi => ?_⟩
  by_cases hik : i < k
  · rw [List.getElem?_append_left (by rw [h.len]; exact hik)] at hi
    obtain ⟨c, rfl, h1, h2, h3⟩ := h.ok i f hi
    have hc := (Array.getElem?_eq_some_iff.1 h1).1
    refine ⟨c, rfl, (hW c hc h2 h3).trans h1, h2, fun e => ?_⟩
    rcases hq with rfl | ⟨g, rfl, hg, _⟩
    · exact h3 e
    · cases e; omega
  · have hlen := (List.getElem?_eq_some_iff.1 hi).1
    rw [List.length_append, h.len] at hlen
    have : i = k := by simp at hlen; omega
    subst this
    rw [List.getElem?_append_right (by rw [h.len]; exact Nat.le_refl _), h.len, Nat.sub_self] at hi
    simp at hi
    subst hi
    refine ⟨b, rfl, hb, hB, fun e => ?_⟩
    rcases hq with rfl | ⟨g, rfl, _, hg⟩
    · have := hq3 b e; omega
    · cases e; exact hg rfl
end Go.Proofs.YtiicjbnocpphdaaDoor.Cd
