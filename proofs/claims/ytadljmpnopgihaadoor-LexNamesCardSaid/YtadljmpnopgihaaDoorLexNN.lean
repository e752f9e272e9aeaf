/- The walk of the statement LexNames' function: it returns true. Conditions: lex.signs holds its list. -/
import Derived.Test.YtadljmpnopgihaaDoorLexN
namespace Go.Proofs.YtadljmpnopgihaaDoor.Lx
open Go Go.RowKit

def strsN (L : List (List UInt8)) : Array Value := (L.map fun x => Value.string ⟨x.toArray⟩).toArray
def bads : List (ByteArray × Nat) := [({ data := #[124] }, 0), ({ data := #[97, 32, 124, 98] }, 2), ({ data := #[48, 48] }, 0), ({ data := #[120, 32, 48, 49] }, 2), ({ data := #[57, 50, 50, 51, 51, 55, 50, 48, 51, 54, 56, 53, 52, 55, 55, 53, 56, 48, 57] }, 0), ({ data := #[49, 48, 48, 48, 48, 48, 48, 48, 48, 48, 48, 48, 48, 48, 48, 48, 48, 48, 48, 48] }, 0), ({ data := #[49, 95] }, 0), ({ data := #[49, 32, 50, 97] }, 2), (rep 33 97, 0), ({ data := #[120, 0] }, 1), ({ data := #[13] }, 0), ({ data := #[255] }, 0), ({ data := #[97, 46, 98] }, 1), ({ data := #[39] }, 0), ({ data := #[48, 120, 49] }, 0), ({ data := #[120, 32, 64, 32, 36] }, 2)]
def badCells : Array Value := (bads.flatMap fun x => [Value.string x.1, Value.int .i64 (x.2 : Int)]).toArray
theorem badLit : badCells = #[Value.string { data := #[124] }, Value.int IntKind.i64 0, Value.string { data := #[97, 32, 124, 98] }, Value.int IntKind.i64 2, Value.string { data := #[48, 48] }, Value.int IntKind.i64 0, Value.string { data := #[120, 32, 48, 49] }, Value.int IntKind.i64 2, Value.string { data := #[57, 50, 50, 51, 51, 55, 50, 48, 51, 54, 56, 53, 52, 55, 55, 53, 56, 48, 57] }, Value.int IntKind.i64 0, Value.string { data := #[49, 48, 48, 48, 48, 48, 48, 48, 48, 48, 48, 48, 48, 48, 48, 48, 48, 48, 48, 48] }, Value.int IntKind.i64 0, Value.string { data := #[49, 95] }, Value.int IntKind.i64 0, Value.string { data := #[49, 32, 50, 97] }, Value.int IntKind.i64 2, Value.string (rep 33 97), Value.int IntKind.i64 0, Value.string { data := #[120, 0] }, Value.int IntKind.i64 1, Value.string { data := #[13] }, Value.int IntKind.i64 0, Value.string { data := #[255] }, Value.int IntKind.i64 0, Value.string { data := #[97, 46, 98] }, Value.int IntKind.i64 1, Value.string { data := #[39] }, Value.int IntKind.i64 0, Value.string { data := #[48, 120, 49] }, Value.int IntKind.i64 0, Value.string { data := #[120, 32, 64, 32, 36] }, Value.int IntKind.i64 2] := rfl
theorem bads_ok : ∀ x ∈ bads, res x.1.data.toList = ([], x.2, 63) ∧ x.1.size ≤ 100 := by decide +kernel
theorem bads_at : ∀ (L : List (ByteArray × Nat)) (k : Nat) (x : ByteArray × Nat), L[k]? = some x → (L.flatMap fun x => [Value.string x.1, Value.int .i64 (x.2 : Int)])[k * 2]? = some (.string x.1) ∧ (L.flatMap fun x => [Value.string x.1, Value.int .i64 (x.2 : Int)])[k * 2 + 1]? = some (.int .i64 (x.2 : Int))
  | [], k, x, h => by simp at h
  | y :: r, 0, x, h => by
    simp at h; subst h
    exact ⟨rfl, rfl⟩
  | y :: r, k + 1, x, h => by
    have ih := bads_at r k x (by simpa using h)
    have e1 : (k + 1) * 2 = k * 2 + 2 := by omega
    have e2 : (k + 1) * 2 + 1 = (k * 2 + 1) + 2 := by omega
    rw [e1]
    refine ⟨?_, ?_⟩
    · simpa using ih.1
    · rw [show k * 2 + 2 + 1 = (k * 2 + 1) + 2 by omega]; simpa using ih.2
theorem bads_cell (w : World) (b k : Nat) (x : ByteArray × Nat) (hk : bads[k]? = some x) (hg : w.heap[b]? = some (.cells badCells 25 (0, 0))) :
    w.cell? ⟨b, k * 2, none⟩ = some (.string x.1) ∧ w.cell? ⟨b, k * 2 + 1, none⟩ = some (.int .i64 (x.2 : Int)) := by
  obtain ⟨h1, h2⟩ := bads_at bads k x hk
  refine ⟨?_, ?_⟩
  · rw [cell_of_row _ _ _ _ _ _ hg, ← h1]; unfold badCells; simp
  · rw [cell_of_row _ _ _ _ _ _ hg, ← h2]; unfold badCells; simp
theorem wordLit : strsN words = #[Value.string { data := #[103, 108, 111, 98, 97, 108] }, Value.string { data := #[97, 114, 114, 97, 121] }, Value.string { data := #[108, 111, 99, 107] }, Value.string { data := #[102, 117, 110, 99] }, Value.string { data := #[116, 104, 114, 101, 97, 100] }, Value.string { data := #[118, 97, 114] }, Value.string { data := #[105, 102] }, Value.string { data := #[101, 108, 115, 101] }, Value.string { data := #[119, 104, 105, 108, 101] }, Value.string { data := #[119, 105, 116, 104] }, Value.string { data := #[112, 114, 105, 110, 116] }, Value.string { data := #[99, 97, 108, 108] }, Value.string { data := #[114, 101, 116, 117, 114, 110] }, Value.string { data := #[116, 114, 117, 101] }, Value.string { data := #[102, 97, 108, 115, 101] }] := rfl
theorem words_ok : ∀ x ∈ words, rsv x = true ∧ nme x = false ∧ rsv (x ++ [115]) = false ∧ nme (x ++ [115]) = true ∧ x.length ≤ 100 := by decide +kernel
theorem words_cell (w : World) (b k : Nat) (x : List UInt8) (hk : words[k]? = some x) (hg : w.heap[b]? = some (.cells (strsN words) 9 (0, 0))) : w.cell? ⟨b, k, none⟩ = some (.string ⟨x.toArray⟩) := by
  rw [cell_of_row _ _ _ _ _ _ hg]; unfold strsN; simp [hk]
theorem res_big (n : Nat) (b : UInt8) (h : 65536 < n) : res (rep n b).data.toList = ([], 0, 40) := by
  unfold res; rw [rep_data, List.length_replicate, if_pos h]
theorem res_blank (n : Nat) (h : n ≤ 65536) : res (rep n 32).data.toList = ([], 0, 0) := by
  have hp := Passed.many (c := 32) (by decide) n []
  rw [List.append_nil, List.length_replicate, skp_nil, Nat.add_zero] at hp
  refine res_ok _ [] (by rw [rep_data, List.length_replicate]; exact h) (lexs_end _ _ ?_)
  rw [rep_data, hp, List.drop_of_length_le (by rw [List.length_replicate]; exact Nat.le_refl _)]

theorem rep_ok (n : Nat) (b : UInt8) (h : n ≤ 100000) : (rep n b).size ≤ maxLen := by rw [rep_size]; unfold maxLen; omega
theorem tokBig (w0 w : World) (h : Since w0 w) : Calls Tryd.prog 14 #[.string (rep 65537 36)] w fun e w' => e = .returned (.tuple #[.slice none 0 0, .int .i64 0, .int .i64 40]) ∧ Since w0 w' :=
  (tokens_none (rep 65537 36) 0 40 w (rep_ok _ _ (by omega)) h.1 (res_big 65537 36 (by omega))).mono fun _ _ ⟨he, hb⟩ => ⟨he, h.next hb⟩
theorem tokBlank (w0 w : World) (h : Since w0 w) : Calls Tryd.prog 14 #[.string (rep 65536 32)] w fun e w' => e = .returned (.tuple #[.slice none 0 0, .int .i64 0, .int .i64 0]) ∧ Since w0 w' :=
  (tokens_none (rep 65536 32) 0 0 w (rep_ok _ _ (by omega)) h.1 (res_blank 65536 (by omega))).mono fun _ _ ⟨he, hb⟩ => ⟨he, h.next hb⟩
theorem nnm4 (w0 w : World) (h : Since w0 w) : Calls Tryd.prog 13 #[.string (rep 33 97)] w fun e w' => e = .returned (.bool false) ∧ Since w0 w' :=
  nameS (rep 33 97) false w0 w h (by kernel_rfl) (by kernel_rfl)
theorem nnm5 (w0 w : World) (h : Since w0 w) : Calls Tryd.prog 13 #[.string (rep 32 95)] w fun e w' => e = .returned (.bool true) ∧ Since w0 w' :=
  nameS (rep 32 95) true w0 w h (by kernel_rfl) (by kernel_rfl)

set_option maxHeartbeats 4000000 in
set_option maxRecDepth 100000 in
theorem names_any (w : World) (hsg : SignsIn w) :
    Calls Tryd.prog 3 #[] w fun e w' => e = .returned (.bool true) ∧ Below w.heap.size w w' := by
  have h0 := Since.start hsg
  go_enter Tryd.func3, Tryd.ntmps3
  go_wp2_with fail
  refine (works_any w _ h0).mono ?_
  rintro e w1 ⟨rfl, h1⟩
  go_wp2_with fail
  refine (ncut1 w _ h1).mono ?_
  rintro e w2 ⟨rfl, h2⟩
  go_wp2_with fail
  refine (ncut2 w _ h2).mono ?_
  rintro e w3 ⟨rfl, h3⟩
  go_wp2_with fail
  refine (ncut3 w _ h3).mono ?_
  rintro e w4 ⟨rfl, h4⟩
  go_wp2_with fail
  refine (ncut4 w _ (h4.alloc _) _).mono ?_
  rintro e w5 ⟨rfl, h5⟩
  go_wp2_with fail
  refine (ncut5 w _ h5).mono ?_
  rintro e w6 ⟨rfl, h6⟩
  go_wp2_with fail
  refine (ncut6 w _ h6).mono ?_
  rintro e w7 ⟨rfl, h7⟩
  go_wp2_with fail
  refine (ncut7 w _ h7).mono ?_
  rintro e w8 ⟨rfl, h8⟩
  go_wp2_with fail
  refine (ncut8 w _ h8).mono ?_
  rintro e w9 ⟨rfl, h9⟩
  go_wp2_with fail
  refine (ncut9 w _ h9).mono ?_
  rintro e wa ⟨rfl, ha⟩
  go_wp2_with fail
  refine (manyS 32 97 _ _ rfl rfl (by omega) w _ ha).mono ?_
  rintro e wb ⟨rfl, hb⟩
  go_wp2_with fail
  refine (manyS 32 97 _ _ rfl rfl (by omega) w _ hb).mono ?_
  rintro e wc ⟨rfl, hc⟩
  go_wp2_with fail
  refine (ncut10 w _ hc).mono ?_
  rintro e wd ⟨rfl, hd⟩
  go_wp2_with fail
  refine (ncut11 w _ hd).mono ?_
  rintro e we ⟨rfl, he⟩
  go_wp2_with fail
  refine (ncut12 w _ he).mono ?_
  rintro e wf ⟨rfl, hf⟩
  go_wp2_with fail
  refine (manyS 33 97 _ _ rfl rfl (by omega) w _ hf).mono ?_
  rintro e wg ⟨rfl, hg⟩
  go_wp2_with fail
  go_loopw [102] (fun i wr => ∃ k : Nat, k ≤ 16 ∧ i = .int .i64 k ∧ Since w wr ∧ wr.heap[wg.heap.size]? = some (.cells badCells 25 (0, 0))) (fun i _ => 16 - (intOf i).toNat)
  case atStart => exact ⟨0, by omega, rfl, hg.alloc _, by rw [badLit]; exact heap_alloc_new wg _⟩
  case round =>
    obtain ⟨k, hk, rfl, hS, hX⟩ := hrel
    by_cases hlt : k < 16
    · obtain ⟨x, hx⟩ : ∃ x, bads[k]? = some x := ⟨bads[k]'hlt, List.getElem?_eq_getElem hlt⟩
      obtain ⟨x0, x1⟩ := bads_cell wr _ k x hx hX
      obtain ⟨y0, y1⟩ := bads_ok x (List.mem_of_getElem? hx)
      have hbl : wg.heap.size < wr.heap.size := (Array.getElem?_eq_some_iff.1 hX).1
      replace hX := Lib.hid hX
      replace y0 := Lib.hid y0
      clear hx
      have hS1 := hS.alloc (.cells #[.string x.1, .int .i64 (x.2 : Int)] 25)
      have hc := bad_yes x.1 x.2 _ rfl (wr.alloc (.cells #[.string x.1, .int .i64 (x.2 : Int)] 25)) (by unfold maxLen; omega) hS1.1 y0.out
      replace hc := Lib.hid hc
      go_wp2_with fail
      refine hc.out.mono ?_
      rintro e wh ⟨rfl, hbh⟩
      have hS2 := hS1.next hbh
      have hX2 : Hid (wh.heap[wg.heap.size]? = some (.cells badCells 25 (0, 0))) := Lib.hid (by
        rw [hbh.block wg.heap.size (by simp; omega), heap_alloc_old _ _ hbl]; exact hX.out)
      clear hc x0 x1
      go_wp2_with fail
      go_roundw
      case rel => exact ⟨k + 1, by omega, by go_num, hS2, hX2.out⟩
      case measure => simp [intOf]; omega
    · clear hX
      obtain ⟨wq, hwq⟩ : ∃ wq : World, wq = wr := ⟨_, rfl⟩
      subst hwq
      go_wp2_with fail
      go_loopw [115] (fun i wx => ∃ k : Nat, k ≤ 15 ∧ i = .int .i64 k ∧ Since w wx ∧ wx.heap[wq.heap.size]? = some (.cells (strsN words) 9 (0, 0))) (fun i _ => 15 - (intOf i).toNat)
      case atStart => exact ⟨0, by omega, rfl, hS.alloc _, by rw [wordLit]; exact heap_alloc_new wq _⟩
      case round =>
        obtain ⟨k, hk, rfl, hS, hX⟩ := hrel
        by_cases hlt : k < 15
        · obtain ⟨x, hx⟩ : ∃ x, words[k]? = some x := ⟨words[k]'hlt, List.getElem?_eq_getElem hlt⟩
          have x0 := words_cell wr _ k x hx hX
          obtain ⟨y0, y1, y2, y3, y4⟩ := words_ok x (List.mem_of_getElem? hx)
          have hbl : wq.heap.size < wr.heap.size := (Array.getElem?_eq_some_iff.1 hX).1
          obtain ⟨S, hSx⟩ : ∃ S : ByteArray, S = ⟨x.toArray⟩ := ⟨_, rfl⟩
          rw [← hSx] at x0
          have e1 : S.data.toList = x := by rw [hSx]
          have e2 : (S ++ (⟨#[115]⟩ : ByteArray)).data.toList = x ++ [115] := by rw [app_any, e1]
          have e3 : S.size ≤ 100 := by rw [Lib.size_eq, e1]; exact y4
          have e4 : (S ++ (⟨#[115]⟩ : ByteArray)).size ≤ 200 := by rw [Lib.size_eq, e2, List.length_append, ← e1, ← Lib.size_eq]; simp; omega
          rw [← e1] at y0 y1
          rw [← e2] at y2 y3
          replace hX := Lib.hid hX
          replace y0 := Lib.hid y0
          replace y1 := Lib.hid y1
          replace y2 := Lib.hid y2
          replace y3 := Lib.hid y3
          have m1 : Hid (S.size ≤ maxLen) := Lib.hid (by unfold maxLen; omega)
          have m2 : Hid ((S ++ (⟨#[115]⟩ : ByteArray)).size ≤ maxLen) := Lib.hid (by unfold maxLen; omega)
          clear hx hSx e1 e2 e4
          go_wp2_with fail
          refine (reserved_yes S _ y0.out).mono ?_
          rintro e wi ⟨rfl, rfl⟩
          go_wp2_with fail
          have hc := name_any S wr m1.out hS.1
          rw [y1.out] at hc
          replace hc := Lib.hid hc
          refine hc.out.mono ?_
          rintro e wi ⟨rfl, hbi⟩
          have hS2 := hS.next hbi
          go_wp2_with fail
          have hc2 := reserved_no (S ++ ⟨#[115]⟩) wi y2.out
          replace hc2 := Lib.hid hc2
          refine hc2.out.mono ?_
          rintro e wj ⟨rfl, rfl⟩
          go_wp2_with fail
          have hc3 := name_any (S ++ ⟨#[115]⟩) wi m2.out hS2.1
          rw [y3.out] at hc3
          replace hc3 := Lib.hid hc3
          refine hc3.out.mono ?_
          rintro e wk ⟨rfl, hbk⟩
          have hS3 := hS2.next hbk
          have hX2 : Hid (wk.heap[wq.heap.size]? = some (.cells (strsN words) 9 (0, 0))) := Lib.hid (by
            rw [hbk.block wq.heap.size (by have := hbi.size; omega), hbi.block wq.heap.size hbl]; exact hX.out)
          clear hc hc2 hc3 x0
          go_wp2_with fail
          go_roundw
          case rel => exact ⟨k + 1, by omega, by go_num, hS3, hX2.out⟩
          case measure => simp [intOf]; omega
        · clear hX
          obtain ⟨wp, hwp⟩ : ∃ wp : World, wp = wr := ⟨_, rfl⟩
          subst hwp
          go_wp2_with fail
          refine (manyS 65537 36 _ _ rfl rfl (by omega) w _ hS).mono ?_
          rintro e z1 ⟨rfl, hz1⟩
          go_wp2_with fail
          refine (tokBig w _ hz1).mono ?_
          rintro e z2 ⟨rfl, hz2⟩
          go_wp2_with fail
          refine (manyS 65536 32 _ _ rfl rfl (by omega) w _ hz2).mono ?_
          rintro e z3 ⟨rfl, hz3⟩
          go_wp2_with fail
          refine (tokBlank w _ hz3).mono ?_
          rintro e z4 ⟨rfl, hz4⟩
          go_wp2_with fail
          refine (nnm1 w _ hz4).mono ?_
          rintro e z5 ⟨rfl, hz5⟩
          go_wp2_with fail
          refine (nnm2 w _ hz5).mono ?_
          rintro e z6 ⟨rfl, hz6⟩
          go_wp2_with fail
          refine (nnm3 w _ hz6).mono ?_
          rintro e z7 ⟨rfl, hz7⟩
          go_wp2_with fail
          refine (manyS 33 97 _ _ rfl rfl (by omega) w _ hz7).mono ?_
          rintro e z8 ⟨rfl, hz8⟩
          go_wp2_with fail
          refine (nnm4 w _ hz8).mono ?_
          rintro e z9 ⟨rfl, hz9⟩
          go_wp2_with fail
          refine (manyS 32 95 _ _ rfl rfl (by omega) w _ hz9).mono ?_
          rintro e za ⟨rfl, hza⟩
          go_wp2_with fail
          refine (nnm5 w _ hza).mono ?_
          rintro e zb ⟨rfl, hzb⟩
          go_wp2_with fail
          go_ret
          exact ⟨rfl, hzb.2.2⟩
end Go.Proofs.YtadljmpnopgihaaDoor.Lx
