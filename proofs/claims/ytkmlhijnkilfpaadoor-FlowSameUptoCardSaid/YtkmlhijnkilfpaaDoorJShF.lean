/- Walk of shape, of blocks. Conditions: the blocks lie in memory, operations are such as may be, numbers are none below zero, the text is of bounded length. Walk of shape, of blocks. Conditions: the blocks lie in memory, operations are such as may be, numbers are none below zero, the text is of bounded length. -/
import Derived.Test.YtkmlhijnkilfpaaDoorJFwA
import Derived.Test.YtkmlhijnkilfpaaDoorJaI
import Derived.Test.YtkmlhijnkilfpaaDoorJaK
import Derived.Laws.Concat
import Derived.BigQuiet
import Derived.Deep.QuietTactic
import Derived.Laws.EntriesVeiled
import Derived.Test.YtkmlhijnkilfpaaDoorJaN
import Derived.Deep.RegionHeld
import Derived.Deep.Cut
set_option linter.unusedVariables false
set_option linter.unusedSimpArgs false
namespace Go.Proofs.YtkmlhijnkilfpaaDoor.Fw
open Go Go.RowKit
open Go.Proofs.YtkmlhijnkilfpaaDoor.Lx Go.Proofs.YtkmlhijnkilfpaaDoor.Tr Go.Proofs.YtkmlhijnkilfpaaDoor.Cd

def chrs : List UInt8 := [63, 99, 109, 117, 98, 108, 115, 43, 45, 112, 97, 106, 114, 120]
def chU (op : Int) : UInt8 := chrs.getD op.toNat 63
def digU (n : Int) : UInt8 := UInt8.ofNat (48 + n.toNat % 10)
def shpB (x : Bk) : List UInt8 := x.code.map (fun i => chU i.op) ++ 62 :: (x.tt.map digU ++ 60 :: (x.fm.map digU ++ [32]))
def shpBs (l : List Bk) : List UInt8 := l.flatMap shpB
def strU (l : List UInt8) : ByteArray := ⟨l.toArray⟩
theorem strU_app (l r : List UInt8) : strU l ++ strU r = strU (l ++ r) := ByteArray.ext (by simp [strU])
theorem strU_size (l : List UInt8) : (strU l).size = l.length := by simp [strU, ByteArray.size]
theorem add_chr (A : List UInt8) (c : UInt8) (h : A.length ≤ 1000000) (W : World) : (Op.stringOp .add (strU A) ⟨#[c]⟩).run Tryd.prog W = .ok (.string (strU (A ++ [c]))) W := by
  have h1 := run_string_add (P := Tryd.prog) W (strU A) ⟨#[c]⟩ (by rw [strU_size]; omega) (by show ((1 : Nat) : Int) ≤ 8388608; decide)
  rw [h1, ← strU_app]
  rfl
theorem chr_s0 (W : World) : (Instr.sliceAt 9 (.string ⟨#[63, 99, 109, 117, 98, 108, 115, 43, 45, 112, 97, 106, 114, 120]⟩) (some (.int .u8 ((0 : Nat) : Int))) (some (.int .u8 (((0 : Nat) : Int) + 1))) none).run Tryd.prog W = .ok (.string ⟨#[chU ((0 : Nat) : Int)]⟩) W := by kernel_rfl
theorem chr_s1 (W : World) : (Instr.sliceAt 9 (.string ⟨#[63, 99, 109, 117, 98, 108, 115, 43, 45, 112, 97, 106, 114, 120]⟩) (some (.int .u8 ((1 : Nat) : Int))) (some (.int .u8 (((1 : Nat) : Int) + 1))) none).run Tryd.prog W = .ok (.string ⟨#[chU ((1 : Nat) : Int)]⟩) W := by kernel_rfl
theorem chr_s2 (W : World) : (Instr.sliceAt 9 (.string ⟨#[63, 99, 109, 117, 98, 108, 115, 43, 45, 112, 97, 106, 114, 120]⟩) (some (.int .u8 ((2 : Nat) : Int))) (some (.int .u8 (((2 : Nat) : Int) + 1))) none).run Tryd.prog W = .ok (.string ⟨#[chU ((2 : Nat) : Int)]⟩) W := by kernel_rfl
theorem chr_s3 (W : World) : (Instr.sliceAt 9 (.string ⟨#[63, 99, 109, 117, 98, 108, 115, 43, 45, 112, 97, 106, 114, 120]⟩) (some (.int .u8 ((3 : Nat) : Int))) (some (.int .u8 (((3 : Nat) : Int) + 1))) none).run Tryd.prog W = .ok (.string ⟨#[chU ((3 : Nat) : Int)]⟩) W := by kernel_rfl
theorem chr_s4 (W : World) : (Instr.sliceAt 9 (.string ⟨#[63, 99, 109, 117, 98, 108, 115, 43, 45, 112, 97, 106, 114, 120]⟩) (some (.int .u8 ((4 : Nat) : Int))) (some (.int .u8 (((4 : Nat) : Int) + 1))) none).run Tryd.prog W = .ok (.string ⟨#[chU ((4 : Nat) : Int)]⟩) W := by kernel_rfl
theorem chr_s5 (W : World) : (Instr.sliceAt 9 (.string ⟨#[63, 99, 109, 117, 98, 108, 115, 43, 45, 112, 97, 106, 114, 120]⟩) (some (.int .u8 ((5 : Nat) : Int))) (some (.int .u8 (((5 : Nat) : Int) + 1))) none).run Tryd.prog W = .ok (.string ⟨#[chU ((5 : Nat) : Int)]⟩) W := by kernel_rfl
theorem chr_s6 (W : World) : (Instr.sliceAt 9 (.string ⟨#[63, 99, 109, 117, 98, 108, 115, 43, 45, 112, 97, 106, 114, 120]⟩) (some (.int .u8 ((6 : Nat) : Int))) (some (.int .u8 (((6 : Nat) : Int) + 1))) none).run Tryd.prog W = .ok (.string ⟨#[chU ((6 : Nat) : Int)]⟩) W := by kernel_rfl
theorem chr_s7 (W : World) : (Instr.sliceAt 9 (.string ⟨#[63, 99, 109, 117, 98, 108, 115, 43, 45, 112, 97, 106, 114, 120]⟩) (some (.int .u8 ((7 : Nat) : Int))) (some (.int .u8 (((7 : Nat) : Int) + 1))) none).run Tryd.prog W = .ok (.string ⟨#[chU ((7 : Nat) : Int)]⟩) W := by kernel_rfl
theorem chr_s8 (W : World) : (Instr.sliceAt 9 (.string ⟨#[63, 99, 109, 117, 98, 108, 115, 43, 45, 112, 97, 106, 114, 120]⟩) (some (.int .u8 ((8 : Nat) : Int))) (some (.int .u8 (((8 : Nat) : Int) + 1))) none).run Tryd.prog W = .ok (.string ⟨#[chU ((8 : Nat) : Int)]⟩) W := by kernel_rfl
theorem chr_s9 (W : World) : (Instr.sliceAt 9 (.string ⟨#[63, 99, 109, 117, 98, 108, 115, 43, 45, 112, 97, 106, 114, 120]⟩) (some (.int .u8 ((9 : Nat) : Int))) (some (.int .u8 (((9 : Nat) : Int) + 1))) none).run Tryd.prog W = .ok (.string ⟨#[chU ((9 : Nat) : Int)]⟩) W := by kernel_rfl
theorem chr_s10 (W : World) : (Instr.sliceAt 9 (.string ⟨#[63, 99, 109, 117, 98, 108, 115, 43, 45, 112, 97, 106, 114, 120]⟩) (some (.int .u8 ((10 : Nat) : Int))) (some (.int .u8 (((10 : Nat) : Int) + 1))) none).run Tryd.prog W = .ok (.string ⟨#[chU ((10 : Nat) : Int)]⟩) W := by kernel_rfl
theorem chr_s11 (W : World) : (Instr.sliceAt 9 (.string ⟨#[63, 99, 109, 117, 98, 108, 115, 43, 45, 112, 97, 106, 114, 120]⟩) (some (.int .u8 ((11 : Nat) : Int))) (some (.int .u8 (((11 : Nat) : Int) + 1))) none).run Tryd.prog W = .ok (.string ⟨#[chU ((11 : Nat) : Int)]⟩) W := by kernel_rfl
theorem chr_s12 (W : World) : (Instr.sliceAt 9 (.string ⟨#[63, 99, 109, 117, 98, 108, 115, 43, 45, 112, 97, 106, 114, 120]⟩) (some (.int .u8 ((12 : Nat) : Int))) (some (.int .u8 (((12 : Nat) : Int) + 1))) none).run Tryd.prog W = .ok (.string ⟨#[chU ((12 : Nat) : Int)]⟩) W := by kernel_rfl
theorem chr_s13 (W : World) : (Instr.sliceAt 9 (.string ⟨#[63, 99, 109, 117, 98, 108, 115, 43, 45, 112, 97, 106, 114, 120]⟩) (some (.int .u8 ((13 : Nat) : Int))) (some (.int .u8 (((13 : Nat) : Int) + 1))) none).run Tryd.prog W = .ok (.string ⟨#[chU ((13 : Nat) : Int)]⟩) W := by kernel_rfl
theorem chr_slice (o : Nat) (ho : o < 14) (W : World) : (Instr.sliceAt 9 (.string ⟨#[63, 99, 109, 117, 98, 108, 115, 43, 45, 112, 97, 106, 114, 120]⟩) (some (.int .u8 (o : Int))) (some (.int .u8 ((o : Int) + 1))) none).run Tryd.prog W = .ok (.string ⟨#[chU o]⟩) W := by
  have h : o = 0 ∨ o = 1 ∨ o = 2 ∨ o = 3 ∨ o = 4 ∨ o = 5 ∨ o = 6 ∨ o = 7 ∨ o = 8 ∨ o = 9 ∨ o = 10 ∨ o = 11 ∨ o = 12 ∨ o = 13 := by omega
  clear ho
  rcases h with h | h | h | h | h | h | h | h | h | h | h | h | h | h
  · subst h; exact chr_s0 W
  · subst h; exact chr_s1 W
  · subst h; exact chr_s2 W
  · subst h; exact chr_s3 W
  · subst h; exact chr_s4 W
  · subst h; exact chr_s5 W
  · subst h; exact chr_s6 W
  · subst h; exact chr_s7 W
  · subst h; exact chr_s8 W
  · subst h; exact chr_s9 W
  · subst h; exact chr_s10 W
  · subst h; exact chr_s11 W
  · subst h; exact chr_s12 W
  · subst h; exact chr_s13 W
theorem dig_conv (n : Nat) : (n : Int).tmod 10 = ((n % 10 : Nat) : Int) := by
  rw [Int.tmod_eq_emod_of_nonneg (by omega)]
  omega
theorem dig_bytes (W : World) (d : Nat) (hd : d < 10) : (convert 106 9 (.slice (some ⟨W.heap.size, 0, none⟩) 1 1)).run Tryd.prog (W.alloc (.cells #[.int .u8 ((48 + d : Nat) : Int)] 5)) = .ok (.string ⟨#[UInt8.ofNat (48 + d)]⟩) (W.alloc (.cells #[.int .u8 ((48 + d : Nat) : Int)] 5)) := by
  exact run_convert_bytes_back (P := Tryd.prog) _ 106 9 5 ⟨W.heap.size, 0, none⟩ 1 [UInt8.ofNat (48 + d)] Tryd.underlying106 Tryd.underlying5 Tryd.underlying9
    (fun j hj => by
      have h1 : (UInt8.ofNat (48 + d)).toNat = 48 + d := by simp; omega
      have : j = 0 := by simp at hj; exact hj
      subst this
      simp only [List.getElem_cons_zero, h1]
      rw [Go.WideShapes.add_plain]
      exact blk_cell (blk_new W _ rfl) rfl)
end Go.Proofs.YtkmlhijnkilfpaaDoor.Fw
set_option linter.unusedVariables false
set_option linter.unusedSimpArgs false
namespace Go.Proofs.YtkmlhijnkilfpaaDoor.Fw
open Go Go.RowKit
open Go.Proofs.YtkmlhijnkilfpaaDoor.Lx Go.Proofs.YtkmlhijnkilfpaaDoor.Tr Go.Proofs.YtkmlhijnkilfpaaDoor.Cd

theorem shp_take {l : List Bk} {k : Nat} {x : Bk} (h : l[k]? = some x) : shpBs (l.take (k + 1)) = shpBs (l.take k) ++ shpB x := by
  unfold shpBs
  rw [List.take_add_one, h, List.flatMap_append]; simp
theorem shp_len {l : List Bk} {k : Nat} {x : Bk} (h : l[k]? = some x) : (shpBs (l.take k)).length + (shpB x).length ≤ (shpBs l).length := by
  have h1 : shpBs l = shpBs (l.take (k + 1)) ++ shpBs (l.drop (k + 1)) := by
    unfold shpBs
    rw [← List.flatMap_append, List.take_append_drop]
  rw [h1, shp_take h]
  simp only [List.length_append]
  omega
theorem map_take {α : Type} (f : α → UInt8) {l : List α} {j : Nat} {x : α} (h : l[j]? = some x) : (l.take (j + 1)).map f = (l.take j).map f ++ [f x] := by
  rw [List.take_add_one, h]; simp
set_option maxHeartbeats 8000000 in
set_option maxRecDepth 100000 in
theorem shape_c (l : List Bk) (a : Option Addr) (cap : Nat) (w : World) (hrow : RowAt w Tt a cap l.length (bkCells l)) (hin : ∀ b ∈ l, Bk.In w b) (hop : ∀ b ∈ l, ∀ i ∈ b.code, 0 ≤ i.op ∧ i.op < 14) (htt : ∀ b ∈ l, ∀ t ∈ b.tt, 0 ≤ t) (hfm : ∀ b ∈ l, ∀ t ∈ b.fm, 0 ≤ t) (hsz : (shpBs l).length ≤ 1000000) :
    Calls Tryd.prog 45 #[.slice a l.length cap] w fun e w' => e = .returned (.string (strU (shpBs l))) ∧ Below w.heap.size w w' := by
  obtain ⟨hc1, hc2⟩ := len_i hrow
  have hR := Lib.hid (fun V (hv : Below w.heap.size w V) => hrow.below (Kps.of_below hv))
  have hI := Lib.hid (fun (b : Bk) V (hb : b ∈ l) (hv : Below w.heap.size w V) => (hin b hb).keep hv)
  replace hop := Lib.hid hop
  replace htt := Lib.hid htt
  replace hfm := Lib.hid hfm
  have hs0 : strU (shpBs (l.take 0)) = ⟨#[]⟩ := rfl
  clear hrow hin
  go_enter Tryd.func45, Tryd.ntmps45
  go_wp2_with fail
  go_loopw [3, 4] (fun s i wr => ∃ k : Nat, k ≤ l.length ∧ i = .int .i64 k ∧ s = .string (strU (shpBs (l.take k))) ∧ Hid (Below w.heap.size w wr)) (fun _ i _ => l.length - (intOf i).toNat)
  case atStart => exact ⟨0, Nat.zero_le _, rfl, by rw [hs0], Lib.hid (Below.refl _ _)⟩
  case round =>
    clear hs0
    obtain ⟨k, hk, rfl, rfl, hb⟩ := hrel
    by_cases hlt : k < l.length
    · obtain ⟨x, hx⟩ : ∃ x, l[k]? = some x := ⟨_, List.getElem?_eq_getElem hlt⟩
      have hxm := List.mem_of_getElem? hx
      have hT := Lib.hid (shp_take hx)
      have hsl := shp_len hx
      have hi0' : (0 : Int) ≤ (k : Int) := by omega
      have hi1 : (k : Int) < (l.length : Int) := by omega
      have hxI := Lib.hid (fun V hv => hI.out x V hxm hv)
      have hxop := Lib.hid (fun i hi => hop.out x hxm i hi)
      have hxtt := Lib.hid (fun t ht => htt.out x hxm t ht)
      have hxfm := Lib.hid (fun t ht => hfm.out x hxm t ht)
      obtain ⟨cl1, cl2⟩ := len_i (hI.out x wr hxm hb.out).crow
      obtain ⟨tl1, tl2⟩ := len_i (hI.out x wr hxm hb.out).trow
      obtain ⟨fl1, fl2⟩ := len_i (hI.out x wr hxm hb.out).frow
      have hcell := Lib.hid (fun V (hv : Below w.heap.size w V) => bk_row (hR.out V hv) k x hx)
      generalize hP : shpBs (l.take k) = P at *
      have hB : shpB x = x.code.map (fun i => chU i.op) ++ 62 :: (x.tt.map digU ++ 60 :: (x.fm.map digU ++ [32])) := rfl
      have hBl : (shpB x).length = x.code.length + 1 + x.tt.length + 1 + x.fm.length + 1 := by rw [hB]; simp; omega
      replace hB := Lib.hid hB
      clear hP hx hxm
      obtain ⟨bb, off, ha, _, c0, c1, c2, c3⟩ := hcell.out wr hb.out
      subst ha
      go_wp2_with fail
      go_loopw [3, 5] (fun s i wq => ∃ j : Nat, j ≤ x.code.length ∧ i = .int .i64 j ∧ s = .string (strU (P ++ (x.code.take j).map (fun i => chU i.op))) ∧ Hid (Below w.heap.size w wq)) (fun _ i _ => x.code.length - (intOf i).toNat)
      case atStart => exact ⟨0, Nat.zero_le _, rfl, by simp, hb⟩
      case round =>
        clear hb c0 c1 c2 c3
        obtain ⟨j, hj, rfl, rfl, hb⟩ := hrel
        obtain ⟨_, _, ha, _, c0, c1, c2, c3⟩ := hcell.out wr hb.out
        cases ha
        by_cases hjt : j < x.code.length
        · obtain ⟨y, hy⟩ : ∃ y, x.code[j]? = some y := ⟨_, List.getElem?_eq_getElem hjt⟩
          obtain ⟨b', off', ha', _, d0, _⟩ := in_row (hxI.out wr hb.out).crow j y hy
          obtain ⟨o1, o2⟩ := hxop.out y (List.mem_of_getElem? hy)
          obtain ⟨o, ho⟩ : ∃ o : Nat, y.op = o := ⟨y.op.toNat, by omega⟩
          have hmt := Lib.hid (map_take (fun i : Ins => chU i.op) hy)
          simp only [ho] at hmt
          rw [ho] at d0 o2
          generalize hC : (x.code.take j).map (fun i => chU i.op) = C at *
          have hCl : C.length = j := by rw [← hC]; simp; omega
          have hadd : ∀ W, (Op.stringOp .add (strU (P ++ C)) ⟨#[chU o]⟩).run Tryd.prog W = .ok (.string (strU (P ++ C ++ [chU o]))) W := fun W => add_chr _ _ (by simp; omega) W
          have hsl8 : ∀ W, (Instr.sliceAt 9 (.string ⟨#[63, 99, 109, 117, 98, 108, 115, 43, 45, 112, 97, 106, 114, 120]⟩) (some (.int .u8 (o : Int))) (some (.int .u8 ((o : Int) + 1))) none).run Tryd.prog W = .ok (.string ⟨#[chU o]⟩) W := fun W => chr_slice o (by omega) W
          have hw8 : IntKind.u8.wrap ((o : Int) + 1) = (o : Int) + 1 := IntWalk.u8_in _ (by omega)
          have hj0 : (0 : Int) ≤ (j : Int) := by omega
          have hj1 : (j : Int) < (x.code.length : Int) := by omega
          have hl1 := World.block_lt_of_cell? _ _ c1
          have hl2 := World.block_lt_of_cell? _ _ d0
          rw [ha'] at c1
          clear hC hy ho o1 c0 c2 c3
          go_upto_region 8 with fail
          go_region
          go_wp2_with fail
          go_roundw
          case rel => exact ⟨j + 1, by omega, by go_num, by rw [hmt.out, ← List.append_assoc], Lib.hid hb.out.drew⟩
          case measure => simp [intOf]; omega
        · have hj2 : j = x.code.length := by omega
          subst hj2
          rw [List.take_length]
          have hadd : ∀ W, (Op.stringOp .add (strU (P ++ x.code.map (fun i => chU i.op))) ⟨#[62]⟩).run Tryd.prog W = .ok (.string (strU (P ++ x.code.map (fun i => chU i.op) ++ [62]))) W := fun W => add_chr _ _ (by simp; omega) W
          have hl1 := World.block_lt_of_cell? _ _ c1
          go_upto_region 9 with fail
          generalize hA : P ++ x.code.map (fun i => chU i.op) ++ [62] = A at *
          have hAl : A.length = P.length + x.code.length + 1 := by rw [← hA]; simp; omega
          replace hA := Lib.hid hA
          clear hl1 c0 c1 c2 c3
          go_wp2_with fail
          go_loopw [3, 6] (fun s i wq => ∃ j : Nat, j ≤ x.tt.length ∧ i = .int .i64 j ∧ s = .string (strU (A ++ (x.tt.take j).map digU)) ∧ Hid (Below w.heap.size w wq)) (fun _ i _ => x.tt.length - (intOf i).toNat)
          case atStart => exact ⟨0, Nat.zero_le _, rfl, by simp, hb⟩
          case round =>
            clear hb
            obtain ⟨j, hj, rfl, rfl, hb⟩ := hrel
            obtain ⟨_, _, ha, _, c0, c1, c2, c3⟩ := hcell.out wr hb.out
            cases ha
            by_cases hjt : j < x.tt.length
            · obtain ⟨y, hy⟩ : ∃ y, x.tt[j]? = some y := ⟨_, List.getElem?_eq_getElem hjt⟩
              obtain ⟨b', off', ha', _, d0⟩ := num_row (hxI.out wr hb.out).trow j y hy
              have o1 := hxtt.out y (List.mem_of_getElem? hy)
              obtain ⟨n, rfl⟩ : ∃ n : Nat, y = n := ⟨y.toNat, by omega⟩
              have hmt := Lib.hid (map_take digU hy)
              generalize hC : (x.tt.take j).map digU = C at *
              have hCl : C.length = j := by rw [← hC]; simp; omega
              have htm := dig_conv n
              have hdg : digU (n : Int) = UInt8.ofNat (48 + n % 10) := rfl
              obtain ⟨d, hd⟩ : ∃ d, n % 10 = d := ⟨_, rfl⟩
              have hd10 : d < 10 := by omega
              rw [hd] at htm hdg
              obtain ⟨cb, hcb⟩ : ∃ c, UInt8.ofNat (48 + d) = c := ⟨_, rfl⟩
              rw [hcb] at hdg
              rw [hdg] at hmt
              have hadd : ∀ W, (Op.stringOp .add (strU (A ++ C)) ⟨#[cb]⟩).run Tryd.prog W = .ok (.string (strU (A ++ C ++ [cb]))) W := fun W => add_chr _ _ (by simp; omega) W
              have hcv : (convert 106 9 (.slice (some ⟨wr.heap.size, 0, none⟩) 1 1)).run Tryd.prog (wr.alloc (.cells #[.int .u8 (48 + (d : Int))] 5)) = .ok (.string ⟨#[cb]⟩) (wr.alloc (.cells #[.int .u8 (48 + (d : Int))] 5)) := by rw [← hcb]; exact dig_bytes wr d hd10
              have hbf : Hid (Below w.heap.size w (wr.alloc (.cells #[.int .u8 (48 + (d : Int))] 5))) := Lib.hid (hb.out.alloc hb.out.size _)
              have hj0 : (0 : Int) ≤ (j : Int) := by omega
              have hj1 : (j : Int) < (x.tt.length : Int) := by omega
              have hl1 := World.block_lt_of_cell? _ _ c3
              have hl2 := World.block_lt_of_cell? _ _ d0
              rw [ha'] at c3
              replace hcb := Lib.hid hcb
              clear hC hy o1 hd hdg hb
              go_wp2_with fail
              go_roundw
              case rel => exact ⟨j + 1, by omega, by go_num, by rw [hmt.out, ← List.append_assoc], hbf⟩
              case measure => simp [intOf]; omega
            · have hj2 : j = x.tt.length := by omega
              subst hj2
              rw [List.take_length]
              have hadd : ∀ W, (Op.stringOp .add (strU (A ++ x.tt.map digU)) ⟨#[60]⟩).run Tryd.prog W = .ok (.string (strU (A ++ x.tt.map digU ++ [60]))) W := fun W => add_chr _ _ (by simp; omega) W
              obtain ⟨_, _, ha, _, c0, c1, c2, c3⟩ := hcell.out wr hb.out
              cases ha
              have hl1 := World.block_lt_of_cell? _ _ c3
              go_upto_region 14 with fail
              generalize hA2 : A ++ x.tt.map digU ++ [60] = A2 at *
              have hA2l : A2.length = A.length + x.tt.length + 1 := by rw [← hA2]; simp; omega
              replace hA2 := Lib.hid hA2
              clear hl1 c0 c1 c2 c3
              go_wp2_with fail
              go_loopw [3, 7] (fun s i wq => ∃ j : Nat, j ≤ x.fm.length ∧ i = .int .i64 j ∧ s = .string (strU (A2 ++ (x.fm.take j).map digU)) ∧ Hid (Below w.heap.size w wq)) (fun _ i _ => x.fm.length - (intOf i).toNat)
              case atStart => exact ⟨0, Nat.zero_le _, rfl, by simp, hb⟩
              case round =>
                clear hb
                obtain ⟨j, hj, rfl, rfl, hb⟩ := hrel
                obtain ⟨_, _, ha, _, c0, c1, c2, c3⟩ := hcell.out wr hb.out
                cases ha
                by_cases hjt : j < x.fm.length
                · obtain ⟨y, hy⟩ : ∃ y, x.fm[j]? = some y := ⟨_, List.getElem?_eq_getElem hjt⟩
                  obtain ⟨b', off', ha', _, d0⟩ := num_row (hxI.out wr hb.out).frow j y hy
                  have o1 := hxfm.out y (List.mem_of_getElem? hy)
                  obtain ⟨n, rfl⟩ : ∃ n : Nat, y = n := ⟨y.toNat, by omega⟩
                  have hmt := Lib.hid (map_take digU hy)
                  generalize hC : (x.fm.take j).map digU = C at *
                  have hCl : C.length = j := by rw [← hC]; simp; omega
                  have htm := dig_conv n
                  have hdg : digU (n : Int) = UInt8.ofNat (48 + n % 10) := rfl
                  obtain ⟨d, hd⟩ : ∃ d, n % 10 = d := ⟨_, rfl⟩
                  have hd10 : d < 10 := by omega
                  rw [hd] at htm hdg
                  obtain ⟨cb, hcb⟩ : ∃ c, UInt8.ofNat (48 + d) = c := ⟨_, rfl⟩
                  rw [hcb] at hdg
                  rw [hdg] at hmt
                  have hadd : ∀ W, (Op.stringOp .add (strU (A2 ++ C)) ⟨#[cb]⟩).run Tryd.prog W = .ok (.string (strU (A2 ++ C ++ [cb]))) W := fun W => add_chr _ _ (by simp; omega) W
                  have hcv : (convert 106 9 (.slice (some ⟨wr.heap.size, 0, none⟩) 1 1)).run Tryd.prog (wr.alloc (.cells #[.int .u8 (48 + (d : Int))] 5)) = .ok (.string ⟨#[cb]⟩) (wr.alloc (.cells #[.int .u8 (48 + (d : Int))] 5)) := by rw [← hcb]; exact dig_bytes wr d hd10
                  have hbf : Hid (Below w.heap.size w (wr.alloc (.cells #[.int .u8 (48 + (d : Int))] 5))) := Lib.hid (hb.out.alloc hb.out.size _)
                  have hj0 : (0 : Int) ≤ (j : Int) := by omega
                  have hj1 : (j : Int) < (x.fm.length : Int) := by omega
                  have hl1 := World.block_lt_of_cell? _ _ c2
                  have hl2 := World.block_lt_of_cell? _ _ d0
                  rw [ha'] at c2
                  replace hcb := Lib.hid hcb
                  clear hC hy o1 hd hdg hb
                  go_wp2_with fail
                  go_roundw
                  case rel => exact ⟨j + 1, by omega, by go_num, by rw [hmt.out, ← List.append_assoc], hbf⟩
                  case measure => simp [intOf]; omega
                · have hj2 : j = x.fm.length := by omega
                  subst hj2
                  rw [List.take_length]
                  have hadd : ∀ W, (Op.stringOp .add (strU (A2 ++ x.fm.map digU)) ⟨#[32]⟩).run Tryd.prog W = .ok (.string (strU (A2 ++ x.fm.map digU ++ [32]))) W := fun W => add_chr _ _ (by simp; omega) W
                  obtain ⟨_, _, ha, _, c0, c1, c2, c3⟩ := hcell.out wr hb.out
                  cases ha
                  have hl1 := World.block_lt_of_cell? _ _ c2
                  have hend : Hid (shpBs (l.take (k + 1)) = A2 ++ x.fm.map digU ++ [32]) := Lib.hid (by rw [hT.out, hB.out, ← hA2.out, ← hA.out]; simp)
                  clear hT hB hA hA2
                  go_wp2_with fail
                  go_roundw
                  case rel => exact ⟨k + 1, by omega, by go_num, by rw [hend.out, List.append_assoc], hb⟩
                  case measure => simp [intOf]; omega
    · have hk2 : k = l.length := by omega
      subst hk2
      rw [List.take_length]
      go_wp2_with fail
      go_ret
      exact ⟨rfl, hb.out⟩
end Go.Proofs.YtkmlhijnkilfpaaDoor.Fw
