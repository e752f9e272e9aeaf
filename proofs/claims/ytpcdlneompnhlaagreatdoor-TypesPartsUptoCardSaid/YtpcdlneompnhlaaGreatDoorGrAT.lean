/- Walk of shape, of an expression without arguments. Conditions: its Kind and number are such as may be. · Walk of shape, of any expression that may be. Conditions: its text is not too long. · Walks of says and bad. Conditions: what Parse answers is known. -/
import Derived.Test.YtpcdlneompnhlaaGreatDoorGrAS
import Derived.Test.YtpcdlneompnhlaaGreatDoorGrAB
import Derived.Laws.Concat
import Derived.IntWalk
namespace Go.Proofs.YtpcdlneompnhlaaGreatDoor.Pa
open Go Go.RowKit
open Go.Proofs.YtpcdlneompnhlaaGreatDoor.Lx Go.Proofs.YtpcdlneompnhlaaGreatDoor.Tr

def shNames : List ByteArray := [⟨#[63]⟩, ⟨#[105]⟩, ⟨#[98]⟩, ⟨#[118, 58]⟩, ⟨#[120, 58]⟩, ⟨#[110, 101, 103]⟩, ⟨#[110, 111, 116]⟩, ⟨#[97, 100, 100]⟩, ⟨#[115, 117, 98]⟩, ⟨#[109, 117, 108]⟩, ⟨#[100, 105, 118]⟩, ⟨#[109, 111, 100]⟩, ⟨#[108, 116]⟩, ⟨#[108, 101]⟩, ⟨#[101, 113]⟩, ⟨#[110, 101]⟩, ⟨#[97, 110, 100]⟩, ⟨#[111, 114]⟩]
def shNm (k : Int) : ByteArray := shNames.getD k.toNat ⟨#[]⟩
def digB (n : Int) : ByteArray := ⟨#[UInt8.ofNat (48 + n.toNat % 10)]⟩
mutual
/-- an expression as a text -/
def shp : Ex → ByteArray
  | .mk k nm n _ _ args _ =>
    if k ≤ 2 then shNm k ++ nm ++ digB n
    else match args with
      | [] => shNm k ++ nm
      | e :: r => shpL (shNm k ++ nm ++ ⟨#[40]⟩ ++ shp e) r ++ ⟨#[41]⟩
def shpL : ByteArray → List Ex → ByteArray
  | acc, [] => acc
  | acc, e :: r => shpL (acc ++ ⟨#[32]⟩ ++ shp e) r
end
mutual
def shOk : Ex → Bool
  | .mk k _ n _ _ args _ => decide (1 ≤ k) && decide (k ≤ 17) && decide (0 ≤ n) && (decide (2 < k) || args.isEmpty) && shOkL args
def shOkL : List Ex → Bool
  | [] => true
  | e :: r => shOk e && shOkL r
end
theorem shNm_at (k : Nat) (hk : k < 18) : (shNames.map Value.string)[k]? = some (.string (shNm k)) := by
  have h : ∀ l : List ByteArray, k < l.length → (l.map Value.string)[k]? = some (.string (l.getD k ⟨#[]⟩)) := fun l hl => by
    rw [List.getElem?_map, List.getD_eq_getElem?_getD, List.getElem?_eq_getElem hl]
    rfl
  have := h shNames hk
  unfold shNm
  rw [Int.toNat_natCast]
  exact this
theorem dig_conv (n : Int) (h : 0 ≤ n) : n.tmod 10 = ((n.toNat % 10 : Nat) : Int) := by
  obtain ⟨m, rfl⟩ : ∃ m : Nat, n = m := ⟨n.toNat, by omega⟩
  rw [Int.toNat_natCast, Int.tmod_eq_emod_of_nonneg (by omega)]
  omega
theorem dig_bytes (W : World) (d : Nat) (hd : d < 10) : (convert 72 9 (.slice (some ⟨W.heap.size, 0, none⟩) 1 1)).run Tryz.prog (W.alloc (.cells #[.int .u8 ((48 + d : Nat) : Int)] 5)) = .ok (.string ⟨#[UInt8.ofNat (48 + d)]⟩) (W.alloc (.cells #[.int .u8 ((48 + d : Nat) : Int)] 5)) := by
  exact run_convert_bytes_back (P := Tryz.prog) _ 72 9 5 ⟨W.heap.size, 0, none⟩ 1 [UInt8.ofNat (48 + d)] Tryz.underlying72 Tryz.underlying5 Tryz.underlying9
    (fun j hj => cells_new W #[.int .u8 ((48 + d : Nat) : Int)] 5 j _ (by
      have : j = 0 := by simp at hj; exact hj
      subst this
      have h1 : (UInt8.ofNat (48 + d)).toNat = 48 + d := by simp; omega
      simp only [List.getElem_cons_zero, h1]
      rfl))
set_option maxHeartbeats 4000000 in
set_option maxRecDepth 100000 in
theorem shape_leaf1 (n pos : Int) (nm : ByteArray) (a : Option Addr) (cap : Nat) (w : World) (hn : 0 ≤ n) (hs : nm.size ≤ 1000000) :
    Calls Tryz.prog 32 #[.agg #[.int .u8 1, .string nm, .int .i64 n, .slice a 0 cap, .int .i64 pos]] w fun e w' => e = .returned (.string (shNm 1 ++ nm ++ digB n)) ∧ Below w.heap.size w w' := by
  obtain ⟨W1, hW1⟩ : ∃ W, w.alloc (.cells #[.int .u8 1, .string nm, .int .i64 n, .slice a 0 cap, .int .i64 pos] 62) = W := ⟨_, rfl⟩
  have hb1 : Below w.heap.size w W1 := by rw [← hW1]; exact (Below.refl _ _).alloc (Nat.le_refl _) _
  have hx1 : W1.heap[w.heap.size]? = some (.cells #[.int .u8 1, .string nm, .int .i64 n, .slice a 0 cap, .int .i64 pos] 62 (0, 0)) := by rw [← hW1]; exact World.alloc_heap_new w _
  obtain ⟨W2, hW2⟩ : ∃ W, W1.alloc (.cells ⟨shNames.map Value.string⟩ 9) = W := ⟨_, rfl⟩
  have hb2 : Below w.heap.size w W2 := by rw [← hW2]; exact hb1.alloc hb1.size _
  have hx2 : W2.heap[w.heap.size]? = some (.cells #[.int .u8 1, .string nm, .int .i64 n, .slice a 0 cap, .int .i64 pos] 62 (0, 0)) := by rw [← hW2]; exact (heap_alloc_old W1 _ (cells_lt hx1)).trans hx1
  have hs1 : W1.heap.size = w.heap.size + 1 := by rw [← hW1]; exact sz_alloc _ _
  have hr2 : W2.heap[w.heap.size + 1]? = some (.cells ⟨shNames.map Value.string⟩ 9 (0, 0)) := by rw [← hW2, ← hs1]; exact World.alloc_heap_new W1 _
  have hnm : W2.cell? ⟨w.heap.size + 1, 1, none⟩ = some (.string (shNm 1)) := blk_cell hr2 (by simpa using shNm_at 1 (by decide))
  obtain ⟨b0, b1, b2, b3, b4, _, _, _, _, _⟩ := cells5 hx2
  have hW2' : W1.alloc (.cells #[.string ⟨#[63]⟩, .string ⟨#[105]⟩, .string ⟨#[98]⟩, .string ⟨#[118, 58]⟩, .string ⟨#[120, 58]⟩, .string ⟨#[110, 101, 103]⟩, .string ⟨#[110, 111, 116]⟩, .string ⟨#[97, 100, 100]⟩, .string ⟨#[115, 117, 98]⟩, .string ⟨#[109, 117, 108]⟩, .string ⟨#[100, 105, 118]⟩, .string ⟨#[109, 111, 100]⟩, .string ⟨#[108, 116]⟩, .string ⟨#[108, 101]⟩, .string ⟨#[101, 113]⟩, .string ⟨#[110, 101]⟩, .string ⟨#[97, 110, 100]⟩, .string ⟨#[111, 114]⟩] 9) = W2 := hW2
  obtain ⟨nk, hnk⟩ : ∃ x, shNm 1 = x := ⟨_, rfl⟩
  have hnkz : nk.size ≤ 10 := by rw [← hnk]; decide
  rw [hnk] at hnm ⊢
  have had : ∀ W : World, (Op.stringOp .add nk nm).run Tryz.prog W = .ok (.string (nk ++ nm)) W := fun W => run_string_add W nk nm (by omega) (by omega)
  have had2 : ∀ (W : World) (c : UInt8), (Op.stringOp .add (nk ++ nm) ⟨#[c]⟩).run Tryz.prog W = .ok (.string (nk ++ nm ++ ⟨#[c]⟩)) W := fun W c => run_string_add W (nk ++ nm) ⟨#[c]⟩ (by rw [ByteArray.size_append]; omega) (by show ((1 : Nat) : Int) ≤ 8388608; decide)
  clear hr2 hx2 hx1 hW2 hb1 hnk hnkz
  replace hb2 := Lib.hid hb2
  have htm := dig_conv n hn
  have hdg : digB n = ⟨#[UInt8.ofNat (48 + n.toNat % 10)]⟩ := rfl
  obtain ⟨d, hd⟩ : ∃ d, n.toNat % 10 = d := ⟨_, rfl⟩
  have hd10 : d < 10 := by omega
  rw [hd] at htm hdg
  obtain ⟨cb, hcb⟩ : ∃ c, UInt8.ofNat (48 + d) = c := ⟨_, rfl⟩
  rw [hcb] at hdg
  replace hcb := Lib.hid hcb
  rw [hdg]
  clear hn hd hdg
  go_enter Tryz.func32, Tryz.ntmps32
  go_wp2_with fail
  go_quiet (fail)
  obtain ⟨W3, hW3⟩ : ∃ W, W2.drewN nq = W := ⟨_, rfl⟩
  have hb3 : Below w.heap.size w W3 := by rw [← hW3]; have h := hb2.out; exact ⟨h.os, h.tape, h.output, h.size, h.block⟩
  have e0 : W3.cell? ⟨w.heap.size, 0, none⟩ = some (.int .u8 1) := by rw [← hW3]; exact b0
  have e2 : W3.cell? ⟨w.heap.size, 2, none⟩ = some (.int .i64 n) := by rw [← hW3]; exact b2
  have e3 : W3.cell? ⟨w.heap.size, 3, none⟩ = some (.slice a 0 cap) := by rw [← hW3]; exact b3
  have hsz3 : w.heap.size < W3.heap.size := World.block_lt_of_cell? _ _ e0
  rw [hW3]
  clear hW3 b0 b1 b2 b3 b4 hnm hW2' hW1 hs1
  have hcv : (convert 72 9 (.slice (some ⟨W3.heap.size, 0, none⟩) 1 1)).run Tryz.prog (W3.alloc (.cells #[.int .u8 (48 + (d : Int))] 5)) = .ok (.string ⟨#[cb]⟩) (W3.alloc (.cells #[.int .u8 (48 + (d : Int))] 5)) := by rw [← hcb.out]; exact dig_bytes W3 d hd10
  have hbf : Hid (Below w.heap.size w (W3.alloc (.cells #[.int .u8 (48 + (d : Int))] 5))) := Lib.hid (hb3.alloc hb3.size _)
  replace hb3 := Lib.hid hb3
  go_wp2_with fail
  go_ret
  exact ⟨rfl, hbf.out⟩
set_option maxHeartbeats 4000000 in
set_option maxRecDepth 100000 in
theorem shape_leaf2 (n pos : Int) (nm : ByteArray) (a : Option Addr) (cap : Nat) (w : World) (hn : 0 ≤ n) (hs : nm.size ≤ 1000000) :
    Calls Tryz.prog 32 #[.agg #[.int .u8 2, .string nm, .int .i64 n, .slice a 0 cap, .int .i64 pos]] w fun e w' => e = .returned (.string (shNm 2 ++ nm ++ digB n)) ∧ Below w.heap.size w w' := by
  obtain ⟨W1, hW1⟩ : ∃ W, w.alloc (.cells #[.int .u8 2, .string nm, .int .i64 n, .slice a 0 cap, .int .i64 pos] 62) = W := ⟨_, rfl⟩
  have hb1 : Below w.heap.size w W1 := by rw [← hW1]; exact (Below.refl _ _).alloc (Nat.le_refl _) _
  have hx1 : W1.heap[w.heap.size]? = some (.cells #[.int .u8 2, .string nm, .int .i64 n, .slice a 0 cap, .int .i64 pos] 62 (0, 0)) := by rw [← hW1]; exact World.alloc_heap_new w _
  obtain ⟨W2, hW2⟩ : ∃ W, W1.alloc (.cells ⟨shNames.map Value.string⟩ 9) = W := ⟨_, rfl⟩
  have hb2 : Below w.heap.size w W2 := by rw [← hW2]; exact hb1.alloc hb1.size _
  have hx2 : W2.heap[w.heap.size]? = some (.cells #[.int .u8 2, .string nm, .int .i64 n, .slice a 0 cap, .int .i64 pos] 62 (0, 0)) := by rw [← hW2]; exact (heap_alloc_old W1 _ (cells_lt hx1)).trans hx1
  have hs1 : W1.heap.size = w.heap.size + 1 := by rw [← hW1]; exact sz_alloc _ _
  have hr2 : W2.heap[w.heap.size + 1]? = some (.cells ⟨shNames.map Value.string⟩ 9 (0, 0)) := by rw [← hW2, ← hs1]; exact World.alloc_heap_new W1 _
  have hnm : W2.cell? ⟨w.heap.size + 1, 2, none⟩ = some (.string (shNm 2)) := blk_cell hr2 (by simpa using shNm_at 2 (by decide))
  obtain ⟨b0, b1, b2, b3, b4, _, _, _, _, _⟩ := cells5 hx2
  have hW2' : W1.alloc (.cells #[.string ⟨#[63]⟩, .string ⟨#[105]⟩, .string ⟨#[98]⟩, .string ⟨#[118, 58]⟩, .string ⟨#[120, 58]⟩, .string ⟨#[110, 101, 103]⟩, .string ⟨#[110, 111, 116]⟩, .string ⟨#[97, 100, 100]⟩, .string ⟨#[115, 117, 98]⟩, .string ⟨#[109, 117, 108]⟩, .string ⟨#[100, 105, 118]⟩, .string ⟨#[109, 111, 100]⟩, .string ⟨#[108, 116]⟩, .string ⟨#[108, 101]⟩, .string ⟨#[101, 113]⟩, .string ⟨#[110, 101]⟩, .string ⟨#[97, 110, 100]⟩, .string ⟨#[111, 114]⟩] 9) = W2 := hW2
  obtain ⟨nk, hnk⟩ : ∃ x, shNm 2 = x := ⟨_, rfl⟩
  have hnkz : nk.size ≤ 10 := by rw [← hnk]; decide
  rw [hnk] at hnm ⊢
  have had : ∀ W : World, (Op.stringOp .add nk nm).run Tryz.prog W = .ok (.string (nk ++ nm)) W := fun W => run_string_add W nk nm (by omega) (by omega)
  have had2 : ∀ (W : World) (c : UInt8), (Op.stringOp .add (nk ++ nm) ⟨#[c]⟩).run Tryz.prog W = .ok (.string (nk ++ nm ++ ⟨#[c]⟩)) W := fun W c => run_string_add W (nk ++ nm) ⟨#[c]⟩ (by rw [ByteArray.size_append]; omega) (by show ((1 : Nat) : Int) ≤ 8388608; decide)
  clear hr2 hx2 hx1 hW2 hb1 hnk hnkz
  replace hb2 := Lib.hid hb2
  have htm := dig_conv n hn
  have hdg : digB n = ⟨#[UInt8.ofNat (48 + n.toNat % 10)]⟩ := rfl
  obtain ⟨d, hd⟩ : ∃ d, n.toNat % 10 = d := ⟨_, rfl⟩
  have hd10 : d < 10 := by omega
  rw [hd] at htm hdg
  obtain ⟨cb, hcb⟩ : ∃ c, UInt8.ofNat (48 + d) = c := ⟨_, rfl⟩
  rw [hcb] at hdg
  replace hcb := Lib.hid hcb
  rw [hdg]
  clear hn hd hdg
  go_enter Tryz.func32, Tryz.ntmps32
  go_wp2_with fail
  go_quiet (fail)
  obtain ⟨W3, hW3⟩ : ∃ W, W2.drewN nq = W := ⟨_, rfl⟩
  have hb3 : Below w.heap.size w W3 := by rw [← hW3]; have h := hb2.out; exact ⟨h.os, h.tape, h.output, h.size, h.block⟩
  have e0 : W3.cell? ⟨w.heap.size, 0, none⟩ = some (.int .u8 2) := by rw [← hW3]; exact b0
  have e2 : W3.cell? ⟨w.heap.size, 2, none⟩ = some (.int .i64 n) := by rw [← hW3]; exact b2
  have e3 : W3.cell? ⟨w.heap.size, 3, none⟩ = some (.slice a 0 cap) := by rw [← hW3]; exact b3
  have hsz3 : w.heap.size < W3.heap.size := World.block_lt_of_cell? _ _ e0
  rw [hW3]
  clear hW3 b0 b1 b2 b3 b4 hnm hW2' hW1 hs1
  have hcv : (convert 72 9 (.slice (some ⟨W3.heap.size, 0, none⟩) 1 1)).run Tryz.prog (W3.alloc (.cells #[.int .u8 (48 + (d : Int))] 5)) = .ok (.string ⟨#[cb]⟩) (W3.alloc (.cells #[.int .u8 (48 + (d : Int))] 5)) := by rw [← hcb.out]; exact dig_bytes W3 d hd10
  have hbf : Hid (Below w.heap.size w (W3.alloc (.cells #[.int .u8 (48 + (d : Int))] 5))) := Lib.hid (hb3.alloc hb3.size _)
  replace hb3 := Lib.hid hb3
  go_wp2_with fail
  go_ret
  exact ⟨rfl, hbf.out⟩
end Go.Proofs.YtpcdlneompnhlaaGreatDoor.Pa

namespace Go.Proofs.YtpcdlneompnhlaaGreatDoor.Pa
open Go Go.RowKit
open Go.Proofs.YtpcdlneompnhlaaGreatDoor.Lx Go.Proofs.YtpcdlneompnhlaaGreatDoor.Tr

/-- texts of expressions, a blank between -/
def joinB (o : ByteArray) : List Ex → ByteArray
  | [] => o
  | e :: r => shpL (o ++ shp e) r
theorem shpL_nil (o : ByteArray) : shpL o [] = o := by unfold shpL; rfl
theorem shpL_cons (o : ByteArray) (e : Ex) (r : List Ex) : shpL o (e :: r) = shpL (o ++ ⟨#[32]⟩ ++ shp e) r := by rw [shpL]
theorem shpL_snoc (o : ByteArray) (l : List Ex) (e : Ex) : shpL o (l ++ [e]) = shpL o l ++ ⟨#[32]⟩ ++ shp e := by
  induction l generalizing o with
  | nil => rw [List.nil_append, shpL_cons, shpL_nil, shpL_nil]
  | cons x r ih => rw [List.cons_append, shpL_cons, shpL_cons, ih]
theorem joinB_snoc (o : ByteArray) (l : List Ex) (e : Ex) : joinB o (l ++ [e]) = (if l.length = 0 then joinB o l else joinB o l ++ ⟨#[32]⟩) ++ shp e := by
  cases l with
  | nil => show shpL (o ++ shp e) [] = _; rw [shpL_nil]; rfl
  | cons x r => rw [if_neg (by simp)]; show shpL (o ++ shp x) (r ++ [e]) = _; rw [shpL_snoc]; rfl
theorem shp_big (k : Int) (nm : ByteArray) (n : Int) (a : Option Addr) (cap : Nat) (args : List Ex) (pos : Int) (hk : 2 < k) : shp (.mk k nm n a cap args pos) = if args.length = 0 then shNm k ++ nm else joinB (shNm k ++ nm ++ ⟨#[40]⟩) args ++ ⟨#[41]⟩ := by
  cases args with
  | nil => unfold shp; rw [if_neg (by omega)]; rfl
  | cons e r => unfold shp; rw [if_neg (by omega), if_neg (by simp)]; rfl
theorem shp_small (k : Int) (nm : ByteArray) (n : Int) (a : Option Addr) (cap : Nat) (args : List Ex) (pos : Int) (hk : k ≤ 2) : shp (.mk k nm n a cap args pos) = shNm k ++ nm ++ digB n := by
  unfold shp; rw [if_pos hk]
theorem shpL_le (o : ByteArray) (l : List Ex) : o.size ≤ (shpL o l).size := by
  induction l generalizing o with
  | nil => rw [shpL_nil]; exact Nat.le_refl _
  | cons x r ih => rw [shpL_cons]; have := ih (o ++ ⟨#[32]⟩ ++ shp x); rw [ByteArray.size_append, ByteArray.size_append] at this; omega
theorem shpL_app (o : ByteArray) (l r : List Ex) : shpL o (l ++ r) = shpL (shpL o l) r := by
  induction l generalizing o with
  | nil => rw [List.nil_append, shpL_nil]
  | cons x l ih => rw [List.cons_append, shpL_cons, shpL_cons, ih]
theorem joinB_take (o : ByteArray) (l : List Ex) (i : Nat) : (joinB o (l.take i)).size ≤ (joinB o l).size := by
  cases l with
  | nil => rw [List.take_nil]; exact Nat.le_refl _
  | cons x r =>
    cases i with
    | zero => show o.size ≤ (shpL (o ++ shp x) r).size; have := shpL_le (o ++ shp x) r; rw [ByteArray.size_append] at this; omega
    | succ i =>
      show (shpL (o ++ shp x) (r.take i)).size ≤ (shpL (o ++ shp x) r).size
      conv => rhs; rw [← List.take_append_drop i r, shpL_app]
      exact shpL_le _ _
theorem joinB_mem {o : ByteArray} {l : List Ex} {e : Ex} {i : Nat} (h : l[i]? = some e) : (joinB o (l.take i)).size + (shp e).size ≤ (joinB o l).size := by
  have h1 := joinB_take o l (i + 1)
  rw [List.take_add_one, h] at h1
  simp only [Option.toList_some] at h1
  rw [joinB_snoc, ByteArray.size_append] at h1
  split at h1
  · omega
  · rw [ByteArray.size_append] at h1; omega
theorem shOkL_get : ∀ {l : List Ex} {i : Nat} {e : Ex}, shOkL l = true → l[i]? = some e → shOk e = true
  | x :: r, 0, e, h, he => by
    unfold shOkL at h
    simp at he h; rw [← he]; exact h.1
  | x :: r, i + 1, e, h, he => by
    unfold shOkL at h
    simp only [Bool.and_eq_true] at h
    exact shOkL_get h.2 (by simpa using he)
set_option maxHeartbeats 4000000 in
set_option maxRecDepth 100000 in
theorem shape_any : ∀ (s : Nat) (e : Ex) (w : World), e.sz ≤ s → shOk e = true → (shp e).size ≤ 1000000 → Ex.In w (fun _ => True) e →
    Calls Tryz.prog 32 #[.agg ⟨e.vals⟩] w fun x w' => x = .returned (.string (shp e)) ∧ Below w.heap.size w w' := by
  intro s
  induction s with
  | zero => intro e w h; obtain ⟨k, nm, n, a, cap, args, pos⟩ := e; rw [szE_mk] at h; omega
  | succ s ih =>
    intro e w hsz hok hlen hin
    obtain ⟨k, nm, n, a, cap, args, pos⟩ := e
    unfold shOk at hok
    simp only [Bool.and_eq_true, Bool.or_eq_true, decide_eq_true_eq] at hok
    obtain ⟨⟨⟨⟨hk1, hk17⟩, hn⟩, hka⟩, hoka⟩ := hok
    unfold Ex.In at hin
    obtain ⟨_, hnm, hI, hp, hrow, hinL⟩ := hin
    by_cases hk2 : k ≤ 2
    · have harg : args = [] := by
        rcases hka with h | h
        · omega
        · exact List.isEmpty_iff.1 h
      subst harg
      rw [shp_small _ _ _ _ _ _ _ hk2] at hlen ⊢
      rw [ByteArray.size_append, ByteArray.size_append] at hlen
      have hnms : nm.size ≤ 1000000 := by omega
      have : k = 1 ∨ k = 2 := by omega
      rcases this with rfl | rfl
      · exact shape_leaf1 n pos nm a cap w hn hnms
      · exact shape_leaf2 n pos nm a cap w hn hnms
    · have hk3 : 2 < k := by omega
      rw [shp_big _ _ _ _ _ _ _ hk3] at hlen ⊢
      obtain ⟨K, rfl⟩ : ∃ K : Nat, k = K := ⟨k.toNat, by omega⟩
      have hK : K < 18 := by omega
      have hK0 : (0 : Int) ≤ (K : Int) := by omega
      have hK18 : (K : Int) < 18 := by omega
      have hg1 : ((K : Int) == 1) = false := by rw [beq_eq_false_iff_ne]; omega
      have hg2 : ((K : Int) == 2) = false := by rw [beq_eq_false_iff_ne]; omega
      obtain ⟨W1, hW1⟩ : ∃ W, w.alloc (.cells #[.int .u8 (K : Int), .string nm, .int .i64 n, .slice a args.length cap, .int .i64 pos] 62) = W := ⟨_, rfl⟩
      have hb1 : Below w.heap.size w W1 := by rw [← hW1]; exact (Below.refl _ _).alloc (Nat.le_refl _) _
      have hx1 : W1.heap[w.heap.size]? = some (.cells #[.int .u8 (K : Int), .string nm, .int .i64 n, .slice a args.length cap, .int .i64 pos] 62 (0, 0)) := by rw [← hW1]; exact World.alloc_heap_new w _
      obtain ⟨W2, hW2⟩ : ∃ W, W1.alloc (.cells ⟨shNames.map Value.string⟩ 9) = W := ⟨_, rfl⟩
      have hb2 : Below w.heap.size w W2 := by rw [← hW2]; exact hb1.alloc hb1.size _
      have hx2 : W2.heap[w.heap.size]? = some (.cells #[.int .u8 (K : Int), .string nm, .int .i64 n, .slice a args.length cap, .int .i64 pos] 62 (0, 0)) := by rw [← hW2]; exact (heap_alloc_old W1 _ (cells_lt hx1)).trans hx1
      have hs1 : W1.heap.size = w.heap.size + 1 := by rw [← hW1]; exact sz_alloc _ _
      have hr2 : W2.heap[w.heap.size + 1]? = some (.cells ⟨shNames.map Value.string⟩ 9 (0, 0)) := by rw [← hW2, ← hs1]; exact World.alloc_heap_new W1 _
      have hnmc : W2.cell? ⟨w.heap.size + 1, K, none⟩ = some (.string (shNm K)) := blk_cell hr2 (by simpa using shNm_at K hK)
      obtain ⟨b0, b1, b2, b3, b4, _, _, _, _, _⟩ := cells5 hx2
      have hW2' : W1.alloc (.cells #[.string ⟨#[63]⟩, .string ⟨#[105]⟩, .string ⟨#[98]⟩, .string ⟨#[118, 58]⟩, .string ⟨#[120, 58]⟩, .string ⟨#[110, 101, 103]⟩, .string ⟨#[110, 111, 116]⟩, .string ⟨#[97, 100, 100]⟩, .string ⟨#[115, 117, 98]⟩, .string ⟨#[109, 117, 108]⟩, .string ⟨#[100, 105, 118]⟩, .string ⟨#[109, 111, 100]⟩, .string ⟨#[108, 116]⟩, .string ⟨#[108, 101]⟩, .string ⟨#[101, 113]⟩, .string ⟨#[110, 101]⟩, .string ⟨#[97, 110, 100]⟩, .string ⟨#[111, 114]⟩] 9) = W2 := hW2
      obtain ⟨nk, hnk⟩ : ∃ x, shNm (K : Int) = x := ⟨_, rfl⟩
      rw [hnk] at hnmc hlen ⊢
      have hol : (nk ++ nm).size ≤ 1000000 := by
        split at hlen
        · exact hlen
        · rw [ByteArray.size_append] at hlen
          have h1 := joinB_take (nk ++ nm ++ ⟨#[40]⟩) args 0
          rw [List.take_zero] at h1
          have h2 : (joinB (nk ++ nm ++ ⟨#[40]⟩) []).size = (nk ++ nm).size + 1 := by show (nk ++ nm ++ ⟨#[40]⟩ : ByteArray).size = _; rw [ByteArray.size_append]; rfl
          omega
      have hnn : nk.size ≤ 1000000 ∧ nm.size ≤ 1000000 := by rw [ByteArray.size_append] at hol; omega
      have had : ∀ W : World, (Op.stringOp .add nk nm).run Tryz.prog W = .ok (.string (nk ++ nm)) W := fun W => run_string_add W nk nm (by omega) (by omega)
      obtain ⟨o, ho⟩ : ∃ x, nk ++ nm = x := ⟨_, rfl⟩
      rw [ho] at had hlen hol ⊢
      clear hr2 hx2 hx1 hW2 hb1 hnk hnn ho
      have hro := Lib.hid fun (i : Nat) (x : Ex) (hx : args[i]? = some x) => ex_row hrow i x hx
      have hinx := Lib.hid fun (i : Nat) (x : Ex) (hx : args[i]? = some x) => (⟨by have := Ex.sz_get hx; rw [szE_mk] at hsz; omega, shOkL_get hoka hx, Ex.InL.get hinL hx⟩ : x.sz ≤ s ∧ shOk x = true ∧ Ex.In w (fun _ => True) x)
      have hll : args.length ≤ 9223372036854775807 := by have := hrow.le; have := hrow.lim; unfold maxLen at this; omega
      replace hb2 := Lib.hid hb2
      replace ih := Lib.hid ih
      clear hrow hinL hoka hka hsz hk1 hk17 hk2 hk3 hn hI hp hnm
      show Calls Tryz.prog 32 #[.agg #[.int .u8 (K : Int), .string nm, .int .i64 n, .slice a args.length cap, .int .i64 pos]] w _
      go_enter Tryz.func32, Tryz.ntmps32
      go_wp2_with fail
      go_quiet (fail)
      obtain ⟨W3, hW3⟩ : ∃ W, W2.drewN nq = W := ⟨_, rfl⟩
      have hb3 : Below w.heap.size w W3 := by rw [← hW3]; have h := hb2.out; exact ⟨h.os, h.tape, h.output, h.size, h.block⟩
      have e0 : W3.cell? ⟨w.heap.size, 0, none⟩ = some (.int .u8 (K : Int)) := by rw [← hW3]; exact b0
      have e3 : W3.cell? ⟨w.heap.size, 3, none⟩ = some (.slice a args.length cap) := by rw [← hW3]; exact b3
      have hsz3 : w.heap.size < W3.heap.size := World.block_lt_of_cell? _ _ e0
      rw [hW3]
      clear hW3 b0 b1 b2 b3 b4 hnmc hW2' hW1 hs1 had
      replace hb3 := Lib.hid hb3
      by_cases hemp : args.length = 0
      · rw [if_pos hemp] at *
        have hgt : decide ((args.length : Int) > 0) = false := by rw [decide_eq_false_iff_not]; omega
        have hgt2 : ¬ (0 : Int) < (args.length : Int) := by omega
        go_wp2_with fail
        go_ret
        exact ⟨rfl, hb3.out⟩
      · have hgt : (0 : Int) < (args.length : Int) := by omega
        have hgd : decide (0 < args.length) = true := decide_eq_true (by omega)
        have hgn : 0 < args.length := by omega
        rw [if_neg hemp] at *
        have ha1 : ∀ W : World, (Op.stringOp .add o ⟨#[40]⟩).run Tryz.prog W = .ok (.string (o ++ ⟨#[40]⟩)) W := fun W => run_string_add W o ⟨#[40]⟩ (by omega) (by show ((1 : Nat) : Int) ≤ 8388608; decide)
        go_wp2_with fail
        go_loopw [4, 5] (fun v x wr => ∃ i : Nat, i ≤ args.length ∧ x = .int .i64 i ∧ v = .string (joinB (o ++ ⟨#[40]⟩) (args.take i)) ∧ Below W3.heap.size W3 wr) (fun _ x _ => args.length - (intOf x).toNat)
        case atStart => exact ⟨0, Nat.zero_le _, rfl, by rw [List.take_zero]; rfl, Below.refl _ _⟩
        case round =>
          obtain ⟨i, hi, rfl, rfl, hbr⟩ := hrel
          have f3 : wr.cell? ⟨w.heap.size, 3, none⟩ = some (.slice a args.length cap) := below_in hbr e3
          have hjt := joinB_take (o ++ ⟨#[40]⟩) args i
          have hszJ : (joinB (o ++ ⟨#[40]⟩) args).size ≤ 1000000 := by rw [ByteArray.size_append] at hlen; omega
          obtain ⟨sv, hsv⟩ : ∃ x, joinB (o ++ ⟨#[40]⟩) (args.take i) = x := ⟨_, rfl⟩
          by_cases hlt : i < args.length
          · obtain ⟨ei, hei⟩ : ∃ ei, args[i]? = some ei := ⟨_, List.getElem?_eq_getElem hlt⟩
            have hmem := joinB_mem (o := o ++ ⟨#[40]⟩) hei
            have hsn : joinB (o ++ ⟨#[40]⟩) (args.take (i + 1)) = (if (args.take i).length = 0 then sv else sv ++ ⟨#[32]⟩) ++ shp ei := by
              rw [List.take_add_one, hei, ← hsv]
              exact joinB_snoc _ _ _
            have htl : (args.take i).length = i := by rw [List.length_take]; omega
            rw [htl] at hsn
            rw [hsv] at hmem hjt ⊢
            obtain ⟨b, off, hab, _, hcell⟩ := hro.out i ei hei
            obtain ⟨hx1, hx2, hx3⟩ := hinx.out i ei hei
            have hBr := hb3.out.trans (hbr.mono hb3.out.size)
            have hcw : ∀ (j : Nat) (u : Value), ei.vals[j]? = some u → wr.cell? ⟨b, off + (i * 5 + j), none⟩ = some u := fun j u hj => below_in hBr (hcell j u hj)
            have hSh := Lib.hid fun V (hV : Below wr.heap.size wr V) => ih.out ei V hx1 hx2 (by omega) (Ex.In.below (Kps.of_below (hBr.trans (hV.mono hBr.size))) _ hx3)
            obtain ⟨se, hse⟩ : ∃ x, shp ei = x := ⟨_, rfl⟩
            rw [hse] at hSh hsn hmem
            have hsvl : sv.size ≤ 1000000 := by omega
            have hsel : se.size ≤ 1000000 := by omega
            have hq1 : ∀ W : World, (Op.stringOp .add sv ⟨#[32]⟩).run Tryz.prog W = .ok (.string (sv ++ ⟨#[32]⟩)) W := fun W => run_string_add W sv ⟨#[32]⟩ (by omega) (by show ((1 : Nat) : Int) ≤ 8388608; decide)
            have hq2 : ∀ W : World, (Op.stringOp .add (sv ++ ⟨#[32]⟩) se).run Tryz.prog W = .ok (.string (sv ++ ⟨#[32]⟩ ++ se)) W := fun W => run_string_add W (sv ++ ⟨#[32]⟩) se (by rw [ByteArray.size_append]; have : (⟨#[32]⟩ : ByteArray).size = 1 := rfl; omega) (by omega)
            have hq3 : ∀ W : World, (Op.stringOp .add sv se).run Tryz.prog W = .ok (.string (sv ++ se)) W := fun W => run_string_add W sv se (by omega) (by omega)
            obtain ⟨k1, n1, y1, a1, c1, q1, p1⟩ := ei
            have t0 := hcw 0 _ rfl
            have t1 := hcw 1 _ rfl
            have t2 := hcw 2 _ rfl
            have t3 := hcw 3 _ rfl
            have t4 := hcw 4 _ rfl
            rw [← Nat.add_assoc] at t0 t1 t2 t3 t4
            rw [Nat.add_zero] at t0
            rw [hab] at f3
            clear hab
            have hi0 : (0 : Int) ≤ (i : Int) := by omega
            have hilt : (i : Int) < (args.length : Int) := by omega
            replace hbr := Lib.hid hbr
            clear hcell hcw hmem hjt hBr hx1 hx2 hx3 hro hinx hlen hol hszJ
            by_cases hz : i = 0
            · rw [if_pos hz] at hsn
              have hgi : ¬ (0 : Int) < (i : Int) := by omega
              clear hz
              go_wp2_with fail
              refine (hSh.out wr (Below.refl _ _)).mono ?_
              rintro e w5 ⟨rfl, hb5⟩
              go_wp2_with fail
              go_roundw
              case rel => exact ⟨i + 1, by omega, by go_num, by rw [hsn], hbr.out.trans (hb5.mono hbr.out.size)⟩
              case measure => simp [intOf]; omega
            · rw [if_neg hz] at hsn
              have hgi : (0 : Int) < (i : Int) := by omega
              go_wp2_with fail
              refine (hSh.out wr (Below.refl _ _)).mono ?_
              rintro e w5 ⟨rfl, hb5⟩
              go_wp2_with fail
              go_roundw
              case rel => exact ⟨i + 1, by omega, by go_num, by rw [hsn], hbr.out.trans (hb5.mono hbr.out.size)⟩
              case measure => simp [intOf]; omega
          · have hie : i = args.length := by omega
            have hfi : joinB (o ++ ⟨#[40]⟩) args = sv := by rw [← hsv, List.take_of_length_le (by omega)]
            rw [hsv]
            have hilt : ¬ (i : Int) < (args.length : Int) := by omega
            have hsvl : sv.size ≤ 1000000 := by rw [← hfi]; exact hszJ
            have hq : ∀ W : World, (Op.stringOp .add sv ⟨#[41]⟩).run Tryz.prog W = .ok (.string (sv ++ ⟨#[41]⟩)) W := fun W => run_string_add W sv ⟨#[41]⟩ (by omega) (by show ((1 : Nat) : Int) ≤ 8388608; decide)
            replace hbr := Lib.hid hbr
            clear hro hinx hlen hjt hsv
            go_wp2_with fail
            go_ret
            exact ⟨rfl, hb3.out.trans (hbr.out.mono hb3.out.size)⟩
end Go.Proofs.YtpcdlneompnhlaaGreatDoor.Pa

namespace Go.Proofs.YtpcdlneompnhlaaGreatDoor.Pa
open Go Go.RowKit
open Go.Proofs.YtpcdlneompnhlaaGreatDoor.Lx Go.Proofs.YtpcdlneompnhlaaGreatDoor.Tr

mutual
theorem shp_ea : ∀ e : Ex, shp (ea e) = shp e
  | .mk k nm n a cap [] pos => by rw [ea_eq, eaL_nil]; unfold shp; rfl
  | .mk k nm n a cap (e :: r) pos => by
    rw [ea_eq, eaL_cons]
    unfold shp
    simp only
    rw [shp_ea e, shpL_ea _ r]
theorem shpL_ea : ∀ (o : ByteArray) (l : List Ex), shpL o (eaL l) = shpL o l
  | o, [] => by rw [eaL_nil]
  | o, e :: r => by rw [eaL_cons, shpL_cons, shpL_cons, shp_ea e, shpL_ea _ r]
end
theorem shOk_eq (k : Int) (nm : ByteArray) (n : Int) (a : Option Addr) (cap : Nat) (args : List Ex) (pos : Int) : shOk (.mk k nm n a cap args pos) = (decide (1 ≤ k) && decide (k ≤ 17) && decide (0 ≤ n) && (decide (2 < k) || args.isEmpty) && shOkL args) := by unfold shOk; rfl
theorem shOkL_cons (e : Ex) (r : List Ex) : shOkL (e :: r) = (shOk e && shOkL r) := by rw [shOkL]
mutual
theorem shOk_ea : ∀ e : Ex, shOk (ea e) = shOk e
  | .mk k nm n a cap args pos => by
    rw [ea_eq, shOk_eq, shOk_eq, shOkL_ea args]
    cases args with
    | nil => rw [eaL_nil]
    | cons e r => rw [eaL_cons]; rfl
theorem shOkL_ea : ∀ l : List Ex, shOkL (eaL l) = shOkL l
  | [] => by rw [eaL_nil]
  | e :: r => by rw [eaL_cons, shOkL_cons, shOkL_cons, shOk_ea e, shOkL_ea r]
end
/-- what the packages' variables hold -/
structure All (w : World) : Prop where
  tb : TbP w
  ht : TabsD w
theorem All.below {w w' : World} (h : All w) (hb : Below w.heap.size w w') : All w' := ⟨h.tb.low_keep h.tb.low hb, h.ht.below hb⟩
set_option maxHeartbeats 4000000 in
set_option maxRecDepth 100000 in
theorem bad_yes (s : ByteArray) (p e : Int) (w : World) (hs : s.size ≤ maxLen) (hw : All w) (hp : parseP s = ([], p, e)) :
    Calls Tryz.prog 34 #[.string s, .int .i64 p, .int .i64 e] w fun x w' => x = .returned (.bool true) ∧ Below w.heap.size w w' := by
  have hP := parse_c s w hs hw.tb hw.ht
  rw [hp] at hP
  replace hP := Lib.hid hP
  clear hp hw hs
  go_enter Tryz.func34, Tryz.ntmps34
  go_wp2_with fail
  refine hP.out.mono ?_
  rintro x w2 ⟨hb, v, rfl, l, a, cap, rfl, h1, h2, h3⟩
  have hl : l = [] := by simpa using h3
  subst hl
  clear h1 h2 h3 hP
  replace hb := Lib.hid hb
  go_wp2_with fail
  go_ret
  exact ⟨rfl, hb.out⟩
set_option maxHeartbeats 4000000 in
set_option maxRecDepth 100000 in
theorem says_no (s want : ByteArray) (w : World) (hs : s.size ≤ 10000) (hw : All w) (ds : List De) (p e : Int) (he : e ≠ 0) (hp : parseP (⟨#[116, 104, 114, 101, 97, 100, 32, 116, 123, 112, 114, 105, 110, 116, 32]⟩ ++ s ++ ⟨#[59, 125]⟩) = (ds, p, e)) :
    Calls Tryz.prog 33 #[.string s, .string want] w fun x w' => x = .returned (.bool false) ∧ Below w.heap.size w w' := by
  have hz : (⟨#[116, 104, 114, 101, 97, 100, 32, 116, 123, 112, 114, 105, 110, 116, 32]⟩ ++ s ++ ⟨#[59, 125]⟩ : ByteArray).size ≤ maxLen := by
    rw [ByteArray.size_append, ByteArray.size_append]
    have h1 : (⟨#[116, 104, 114, 101, 97, 100, 32, 116, 123, 112, 114, 105, 110, 116, 32]⟩ : ByteArray).size = 15 := rfl
    have h2 : (⟨#[59, 125]⟩ : ByteArray).size = 2 := rfl
    unfold maxLen; omega
  have hP := parse_c _ w hz hw.tb hw.ht
  rw [hp] at hP
  replace hP := Lib.hid hP
  have ha1 : ∀ W : World, (Op.stringOp .add ⟨#[116, 104, 114, 101, 97, 100, 32, 116, 123, 112, 114, 105, 110, 116, 32]⟩ s).run Tryz.prog W = .ok (.string (⟨#[116, 104, 114, 101, 97, 100, 32, 116, 123, 112, 114, 105, 110, 116, 32]⟩ ++ s)) W := fun W => run_string_add W _ s (by show ((15 : Nat) : Int) ≤ 8388608; decide) (by omega)
  have ha2 : ∀ W : World, (Op.stringOp .add (⟨#[116, 104, 114, 101, 97, 100, 32, 116, 123, 112, 114, 105, 110, 116, 32]⟩ ++ s) ⟨#[59, 125]⟩).run Tryz.prog W = .ok (.string (⟨#[116, 104, 114, 101, 97, 100, 32, 116, 123, 112, 114, 105, 110, 116, 32]⟩ ++ s ++ ⟨#[59, 125]⟩)) W := fun W => run_string_add W _ _ (by rw [ByteArray.size_append]; have h1 : (⟨#[116, 104, 114, 101, 97, 100, 32, 116, 123, 112, 114, 105, 110, 116, 32]⟩ : ByteArray).size = 15 := rfl; omega) (by show ((2 : Nat) : Int) ≤ 8388608; decide)
  have hne : (e == 0) = false := by rw [beq_eq_false_iff_ne]; exact he
  clear hp hw hs hz
  go_enter Tryz.func33, Tryz.ntmps33
  go_wp2_with fail
  refine hP.out.mono ?_
  rintro x w2 ⟨hb, v, rfl, _⟩
  clear hP
  replace hb := Lib.hid hb
  go_wp2_with fail
  go_ret
  exact ⟨rfl, hb.out⟩
set_option maxHeartbeats 4000000 in
set_option maxRecDepth 100000 in
theorem says_yes (s want : ByteArray) (w : World) (hs : s.size ≤ 10000) (hw : All w) (dk dn dp : Int) (dnm : ByteArray) (dps : List ByteArray) (snm sto : ByteArray) (snw : Bool) (e : Ex) (sb sl : List St) (sp : Int) (hok : shOk e = true) (hwant : shp e = want) (hwz : want.size ≤ 1000000)
    (hp : parseP (⟨#[116, 104, 114, 101, 97, 100, 32, 116, 123, 112, 114, 105, 110, 116, 32]⟩ ++ s ++ ⟨#[59, 125]⟩) = ([⟨dk, dnm, dn, none, 0, dps, none, 0, [.mk 7 snm sto snw none 0 [e] none 0 sb none 0 sl sp], dp⟩], 0, 0)) :
    Calls Tryz.prog 33 #[.string s, .string want] w fun x w' => x = .returned (.bool true) ∧ Below w.heap.size w w' := by
  have hz : (⟨#[116, 104, 114, 101, 97, 100, 32, 116, 123, 112, 114, 105, 110, 116, 32]⟩ ++ s ++ ⟨#[59, 125]⟩ : ByteArray).size ≤ maxLen := by
    rw [ByteArray.size_append, ByteArray.size_append]
    have h1 : (⟨#[116, 104, 114, 101, 97, 100, 32, 116, 123, 112, 114, 105, 110, 116, 32]⟩ : ByteArray).size = 15 := rfl
    have h2 : (⟨#[59, 125]⟩ : ByteArray).size = 2 := rfl
    unfold maxLen; omega
  have hP := parse_c _ w hz hw.tb hw.ht
  rw [hp] at hP
  replace hP := Lib.hid hP
  have ha1 : ∀ W : World, (Op.stringOp .add ⟨#[116, 104, 114, 101, 97, 100, 32, 116, 123, 112, 114, 105, 110, 116, 32]⟩ s).run Tryz.prog W = .ok (.string (⟨#[116, 104, 114, 101, 97, 100, 32, 116, 123, 112, 114, 105, 110, 116, 32]⟩ ++ s)) W := fun W => run_string_add W _ s (by show ((15 : Nat) : Int) ≤ 8388608; decide) (by omega)
  have ha2 : ∀ W : World, (Op.stringOp .add (⟨#[116, 104, 114, 101, 97, 100, 32, 116, 123, 112, 114, 105, 110, 116, 32]⟩ ++ s) ⟨#[59, 125]⟩).run Tryz.prog W = .ok (.string (⟨#[116, 104, 114, 101, 97, 100, 32, 116, 123, 112, 114, 105, 110, 116, 32]⟩ ++ s ++ ⟨#[59, 125]⟩)) W := fun W => run_string_add W _ _ (by rw [ByteArray.size_append]; have h1 : (⟨#[116, 104, 114, 101, 97, 100, 32, 116, 123, 112, 114, 105, 110, 116, 32]⟩ : ByteArray).size = 15 := rfl; omega) (by show ((2 : Nat) : Int) ≤ 8388608; decide)
  clear hp hw hs hz
  go_enter Tryz.func33, Tryz.ntmps33
  go_wp2_with fail
  refine hP.out.mono ?_
  rintro x w2 ⟨hb, v, rfl, l, a, cap, rfl, h1, h2, h3⟩
  obtain ⟨d', rfl⟩ : ∃ d', l = [d'] := by
    cases l with
    | nil => simp at h3
    | cons x r => cases r with
      | nil => exact ⟨x, rfl⟩
      | cons y r => simp at h3
  simp only [List.map_cons, List.map_nil, List.cons.injEq, and_true] at h3
  obtain ⟨k1, n1, y1, pa1, pc1, p1, ba1, bc1, bd, q1⟩ := d'
  unfold da at h3
  simp only [De.mk.injEq, true_and] at h3
  obtain ⟨_, _, _, _, hbd, _⟩ := h3
  obtain ⟨s', rfl⟩ : ∃ s', bd = [s'] := by
    rw [saL_map] at hbd
    cases bd with
    | nil => simp at hbd
    | cons x r => cases r with
      | nil => exact ⟨x, rfl⟩
      | cons y r => simp at hbd
  rw [saL_cons, saL_nil] at hbd
  simp only [List.cons.injEq, and_true] at hbd
  obtain ⟨k2, n2, t2, nw2, ea2, ec2, xe, ba2, bc2, b2, la2, lc2, l2, q2⟩ := s'
  rw [sa_eq] at hbd
  simp only [St.mk.injEq, true_and] at hbd
  obtain ⟨rfl, _, _, _, hxe, _, _, _⟩ := hbd
  obtain ⟨e', rfl⟩ : ∃ e', xe = [e'] := by
    rw [eaL_map] at hxe
    cases xe with
    | nil => simp at hxe
    | cons x r => cases r with
      | nil => exact ⟨x, rfl⟩
      | cons y r => simp at hxe
  rw [eaL_cons, eaL_nil] at hxe
  simp only [List.cons.injEq, and_true] at hxe
  subst hxe
  rw [shOk_ea] at hok
  rw [shp_ea] at hwant
  have hD := h2 _ (List.mem_singleton.2 rfl)
  obtain ⟨_, _, _, _, _, _, hrb, hib⟩ := hD
  simp only at hrb hib
  unfold St.InL at hib
  obtain ⟨hS, _⟩ := hib
  unfold St.In at hS
  obtain ⟨_, _, _, _, hre, hie, _⟩ := hS
  unfold Ex.InL at hie
  obtain ⟨hE, _⟩ := hie
  obtain ⟨bD, oD, rfl, _, cD⟩ := de_row h1 0 _ rfl
  obtain ⟨bS, oS, rfl, _, cS⟩ := st_row hrb 0 _ rfl
  obtain ⟨bE, oE, rfl, _, cE⟩ := ex_row hre 0 _ rfl
  have d4 := cD 4 _ rfl
  have s0 := cS 0 _ rfl
  have s4 := cS 4 _ rfl
  simp only [Nat.zero_mul, Nat.zero_add, Nat.add_zero] at d4 s0 s4
  have hSh := Lib.hid (shape_any _ e' w2 (Nat.le_refl _) hok (by rw [hwant]; exact hwz) (Ex.In.mono (fun _ _ => trivial) _ hE))
  rw [hwant] at hSh
  obtain ⟨k3, n3, y3, a3, c3, q3, p3⟩ := e'
  have x0 := cE 0 _ rfl
  have x1 := cE 1 _ rfl
  have x2 := cE 2 _ rfl
  have x3 := cE 3 _ rfl
  have x4 := cE 4 _ rfl
  simp only [Nat.zero_mul, Nat.zero_add, Nat.add_zero] at x0 x1 x2 x3 x4
  replace hb := Lib.hid hb
  clear hP h1 h2 hE hre hrb cD cS cE hok hwant hwz
  go_wp2_with fail
  refine hSh.out.mono ?_
  rintro x w3 ⟨rfl, hb3⟩
  go_wp2_with fail
  go_ret
  exact ⟨rfl, hb.out.trans (hb3.mono hb.out.size)⟩
end Go.Proofs.YtpcdlneompnhlaaGreatDoor.Pa
