/- The examples, the limits and each token: what the statement LexNames asks, call by call. Conditions: lex.signs holds its list. -/
import Derived.Test.YtadljmpnopgihaaDoorLexT
namespace Go.Proofs.YtadljmpnopgihaaDoor.Lx
open Go Go.RowKit

set_option maxHeartbeats 800000 in
set_option maxRecDepth 100000 in
theorem cutL_nil (s : ByteArray) (w0 w : World) (h : Since w0 w) (hs : decide (s.size ≤ 9223372036854775807) = true) (hr : res s.data.toList = ([], 0, 0)) :
    Calls Tryd.prog 9 #[.string s, .string { data := #[] }, .slice none 0 0] w fun e w' => e = .returned (.bool true) ∧ Since w0 w' := by
  have hsm : Hid (s.size ≤ maxLen) := Lib.hid (by unfold maxLen; exact of_decide_eq_true hs)
  replace hr := Lib.hid hr
  clear hs
  go_enter Tryd.func9, Tryd.ntmps9
  go_wp2_with fail
  refine (tokens_none s 0 0 _ hsm.out h.1 hr.out).mono ?_
  rintro e w1 ⟨rfl, hb1⟩
  have h1 := h.next hb1
  go_wp2_with fail
  go_loop [10] (fun i => i = .int .i64 0) (fun _ => 0)
  case atStart => rfl
  case round =>
    obtain rfl := hrel
    go_wp2_with fail
    go_ret
    exact ⟨rfl, h1⟩
set_option maxHeartbeats 800000 in
set_option maxRecDepth 100000 in
theorem cutL_no (s kinds : ByteArray) (ts : List Tok) (n b : Nat) (w0 w : World) (h : Since w0 w) (hs : decide (s.size ≤ 9223372036854775807) = true) (hr : res s.data.toList = (ts, 0, 0)) (hne : ts ≠ []) (hn : ((ts.length : Int) != (n : Int)) = true) :
    Calls Tryd.prog 9 #[.string s, .string kinds, .slice (some ⟨b, 0, none⟩) n n] w fun e w' => e = .returned (.bool false) ∧ Since w0 w' := by
  have hsm : Hid (s.size ≤ maxLen) := Lib.hid (by unfold maxLen; exact of_decide_eq_true hs)
  replace hr := Lib.hid hr
  replace hne := Lib.hid hne
  clear hs
  go_enter Tryd.func9, Tryd.ntmps9
  go_wp2_with fail
  refine (tokens_some s ts _ hsm.out h.1 hr.out hne.out).mono ?_
  rintro e w1 ⟨g, cap, rfl, hg1, hg2, hc1, hc2, hown, hb1⟩
  have h1 := h.next hb1
  go_wp2_with fail
  go_ret
  exact ⟨rfl, h1⟩
theorem manyS (n : Nat) (b : UInt8) (a c : Int) (ha : a = n) (hc : c = (b.toNat : Int)) (hn : n ≤ 100000) (w0 w : World) (h : Since w0 w) :
    Calls Tryd.prog 10 #[.int .i64 a, .int .u8 c] w fun e w' => e = .returned (.string (rep n b)) ∧ Since w0 w' :=
  (many_any n b a c ha hc w hn).mono fun _ _ ⟨he, hb⟩ => ⟨he, h.next hb⟩
theorem ncut3 (w0 w : World) (h : Since w0 w) :
    Calls Tryd.prog 9 #[.string ({ data := #[124, 124, 32, 38, 38, 32, 60, 61, 32, 62, 61, 32, 61, 61, 32, 33, 61, 32, 60, 32, 62, 32, 61, 32, 43, 32, 45, 32, 42, 32, 47, 32, 37, 32, 33, 32, 40, 32, 41, 32, 123, 32, 125, 32, 91, 32, 93, 32, 59, 32, 44] }), .string { data := #[115, 115, 115, 115, 115, 115, 115, 115, 115, 115, 115, 115, 115, 115, 115, 115, 115, 115, 115, 115, 115, 115, 115] }, .slice (some ⟨w.heap.size, 0, none⟩) 23 23] (w.alloc (.cells #[Value.string ({ data := #[124, 124] }), Value.string ({ data := #[38, 38] }), Value.string ({ data := #[60, 61] }), Value.string ({ data := #[62, 61] }), Value.string ({ data := #[61, 61] }), Value.string ({ data := #[33, 61] }), Value.string ({ data := #[60] }), Value.string ({ data := #[62] }), Value.string ({ data := #[61] }), Value.string ({ data := #[43] }), Value.string ({ data := #[45] }), Value.string ({ data := #[42] }), Value.string ({ data := #[47] }), Value.string ({ data := #[37] }), Value.string ({ data := #[33] }), Value.string ({ data := #[40] }), Value.string ({ data := #[41] }), Value.string ({ data := #[123] }), Value.string ({ data := #[125] }), Value.string ({ data := #[91] }), Value.string ({ data := #[93] }), Value.string ({ data := #[59] }), Value.string ({ data := #[44] })] 9)) fun e w' => e = .returned (.bool true) ∧ Since w0 w' :=
  cutS ({ data := #[124, 124, 32, 38, 38, 32, 60, 61, 32, 62, 61, 32, 61, 61, 32, 33, 61, 32, 60, 32, 62, 32, 61, 32, 43, 32, 45, 32, 42, 32, 47, 32, 37, 32, 33, 32, 40, 32, 41, 32, 123, 32, 125, 32, 91, 32, 93, 32, 59, 32, 44] }) { data := #[115, 115, 115, 115, 115, 115, 115, 115, 115, 115, 115, 115, 115, 115, 115, 115, 115, 115, 115, 115, 115, 115, 115] } [⟨3, [124, 124], 0⟩, ⟨3, [38, 38], 3⟩, ⟨3, [60, 61], 6⟩, ⟨3, [62, 61], 9⟩, ⟨3, [61, 61], 12⟩, ⟨3, [33, 61], 15⟩, ⟨3, [60], 18⟩, ⟨3, [62], 20⟩, ⟨3, [61], 22⟩, ⟨3, [43], 24⟩, ⟨3, [45], 26⟩, ⟨3, [42], 28⟩, ⟨3, [47], 30⟩, ⟨3, [37], 32⟩, ⟨3, [33], 34⟩, ⟨3, [40], 36⟩, ⟨3, [41], 38⟩, ⟨3, [123], 40⟩, ⟨3, [125], 42⟩, ⟨3, [91], 44⟩, ⟨3, [93], 46⟩, ⟨3, [59], 48⟩, ⟨3, [44], 50⟩] #[Value.string ({ data := #[124, 124] }), Value.string ({ data := #[38, 38] }), Value.string ({ data := #[60, 61] }), Value.string ({ data := #[62, 61] }), Value.string ({ data := #[61, 61] }), Value.string ({ data := #[33, 61] }), Value.string ({ data := #[60] }), Value.string ({ data := #[62] }), Value.string ({ data := #[61] }), Value.string ({ data := #[43] }), Value.string ({ data := #[45] }), Value.string ({ data := #[42] }), Value.string ({ data := #[47] }), Value.string ({ data := #[37] }), Value.string ({ data := #[33] }), Value.string ({ data := #[40] }), Value.string ({ data := #[41] }), Value.string ({ data := #[123] }), Value.string ({ data := #[125] }), Value.string ({ data := #[91] }), Value.string ({ data := #[93] }), Value.string ({ data := #[59] }), Value.string ({ data := #[44] })] 23 w0 w h (by kernel_rfl) (by kernel_rfl) (by kernel_rfl) (by kernel_rfl)
theorem ncut5 (w0 w : World) (h : Since w0 w) :
    Calls Tryd.prog 9 #[.string ({ data := #[61, 61, 61, 33, 61, 33, 60, 61, 60] }), .string { data := #[115, 115, 115, 115, 115, 115] }, .slice (some ⟨w.heap.size, 0, none⟩) 6 6] (w.alloc (.cells #[Value.string ({ data := #[61, 61] }), Value.string ({ data := #[61] }), Value.string ({ data := #[33, 61] }), Value.string ({ data := #[33] }), Value.string ({ data := #[60, 61] }), Value.string ({ data := #[60] })] 9)) fun e w' => e = .returned (.bool true) ∧ Since w0 w' :=
  cutS ({ data := #[61, 61, 61, 33, 61, 33, 60, 61, 60] }) { data := #[115, 115, 115, 115, 115, 115] } [⟨3, [61, 61], 0⟩, ⟨3, [61], 2⟩, ⟨3, [33, 61], 3⟩, ⟨3, [33], 5⟩, ⟨3, [60, 61], 6⟩, ⟨3, [60], 8⟩] #[Value.string ({ data := #[61, 61] }), Value.string ({ data := #[61] }), Value.string ({ data := #[33, 61] }), Value.string ({ data := #[33] }), Value.string ({ data := #[60, 61] }), Value.string ({ data := #[60] })] 6 w0 w h (by kernel_rfl) (by kernel_rfl) (by kernel_rfl) (by kernel_rfl)
theorem ncut6 (w0 w : World) (h : Since w0 w) :
    Calls Tryd.prog 9 #[.string ({ data := #[95, 32, 95, 57, 32, 65, 122, 48, 57, 95] }), .string { data := #[110, 110, 110] }, .slice (some ⟨w.heap.size, 0, none⟩) 3 3] (w.alloc (.cells #[Value.string ({ data := #[95] }), Value.string ({ data := #[95, 57] }), Value.string ({ data := #[65, 122, 48, 57, 95] })] 9)) fun e w' => e = .returned (.bool true) ∧ Since w0 w' :=
  cutS ({ data := #[95, 32, 95, 57, 32, 65, 122, 48, 57, 95] }) { data := #[110, 110, 110] } [⟨1, [95], 0⟩, ⟨1, [95, 57], 2⟩, ⟨1, [65, 122, 48, 57, 95], 5⟩] #[Value.string ({ data := #[95] }), Value.string ({ data := #[95, 57] }), Value.string ({ data := #[65, 122, 48, 57, 95] })] 3 w0 w h (by kernel_rfl) (by kernel_rfl) (by kernel_rfl) (by kernel_rfl)
theorem ncut7 (w0 w : World) (h : Since w0 w) :
    Calls Tryd.prog 9 #[.string ({ data := #[48, 32, 49, 48, 32, 57, 50, 50, 51, 51, 55, 50, 48, 51, 54, 56, 53, 52, 55, 55, 53, 56, 48, 56] }), .string { data := #[100, 100, 100] }, .slice (some ⟨w.heap.size, 0, none⟩) 3 3] (w.alloc (.cells #[Value.string ({ data := #[48] }), Value.string ({ data := #[49, 48] }), Value.string ({ data := #[57, 50, 50, 51, 51, 55, 50, 48, 51, 54, 56, 53, 52, 55, 55, 53, 56, 48, 56] })] 9)) fun e w' => e = .returned (.bool true) ∧ Since w0 w' :=
  cutS ({ data := #[48, 32, 49, 48, 32, 57, 50, 50, 51, 51, 55, 50, 48, 51, 54, 56, 53, 52, 55, 55, 53, 56, 48, 56] }) { data := #[100, 100, 100] } [⟨2, [48], 0⟩, ⟨2, [49, 48], 2⟩, ⟨2, [57, 50, 50, 51, 51, 55, 50, 48, 51, 54, 56, 53, 52, 55, 55, 53, 56, 48, 56], 5⟩] #[Value.string ({ data := #[48] }), Value.string ({ data := #[49, 48] }), Value.string ({ data := #[57, 50, 50, 51, 51, 55, 50, 48, 51, 54, 56, 53, 52, 55, 55, 53, 56, 48, 56] })] 3 w0 w h (by kernel_rfl) (by kernel_rfl) (by kernel_rfl) (by kernel_rfl)
theorem ncut8 (w0 w : World) (h : Since w0 w) :
    Calls Tryd.prog 9 #[.string ({ data := #[97, 35, 98, 10, 99] }), .string { data := #[110, 110] }, .slice (some ⟨w.heap.size, 0, none⟩) 2 2] (w.alloc (.cells #[Value.string ({ data := #[97] }), Value.string ({ data := #[99] })] 9)) fun e w' => e = .returned (.bool true) ∧ Since w0 w' :=
  cutS ({ data := #[97, 35, 98, 10, 99] }) { data := #[110, 110] } [⟨1, [97], 0⟩, ⟨1, [99], 4⟩] #[Value.string ({ data := #[97] }), Value.string ({ data := #[99] })] 2 w0 w h (by kernel_rfl) (by kernel_rfl) (by kernel_rfl) (by kernel_rfl)
theorem ncut9 (w0 w : World) (h : Since w0 w) :
    Calls Tryd.prog 9 #[.string ({ data := #[105, 102, 32, 120] }), .string { data := #[110, 110] }, .slice (some ⟨w.heap.size, 0, none⟩) 2 2] (w.alloc (.cells #[Value.string ({ data := #[105, 102] }), Value.string ({ data := #[120] })] 9)) fun e w' => e = .returned (.bool true) ∧ Since w0 w' :=
  cutS ({ data := #[105, 102, 32, 120] }) { data := #[110, 110] } [⟨1, [105, 102], 0⟩, ⟨1, [120], 3⟩] #[Value.string ({ data := #[105, 102] }), Value.string ({ data := #[120] })] 2 w0 w h (by kernel_rfl) (by kernel_rfl) (by kernel_rfl) (by kernel_rfl)
theorem ncut10 (w0 w : World) (h : Since w0 w) :
    Calls Tryd.prog 9 #[.string (rep 32 97), .string { data := #[110] }, .slice (some ⟨w.heap.size, 0, none⟩) 1 1] (w.alloc (.cells #[Value.string (rep 32 97)] 9)) fun e w' => e = .returned (.bool true) ∧ Since w0 w' :=
  cutS (rep 32 97) { data := #[110] } [⟨1, List.replicate 32 97, 0⟩] #[Value.string (rep 32 97)] 1 w0 w h (by kernel_rfl) (by kernel_rfl) (by kernel_rfl) (by kernel_rfl)
theorem ncut11 (w0 w : World) (h : Since w0 w) :
    Calls Tryd.prog 9 #[.string ({ data := #[49, 43, 50] }), .string { data := #[100, 115, 100] }, .slice (some ⟨w.heap.size, 0, none⟩) 3 3] (w.alloc (.cells #[Value.string ({ data := #[49] }), Value.string ({ data := #[43] }), Value.string ({ data := #[50] })] 9)) fun e w' => e = .returned (.bool true) ∧ Since w0 w' :=
  cutS ({ data := #[49, 43, 50] }) { data := #[100, 115, 100] } [⟨2, [49], 0⟩, ⟨3, [43], 1⟩, ⟨2, [50], 2⟩] #[Value.string ({ data := #[49] }), Value.string ({ data := #[43] }), Value.string ({ data := #[50] })] 3 w0 w h (by kernel_rfl) (by kernel_rfl) (by kernel_rfl) (by kernel_rfl)
theorem ncut12 (w0 w : World) (h : Since w0 w) :
    Calls Tryd.prog 9 #[.string ({ data := #[40, 49, 41] }), .string { data := #[115, 100, 115] }, .slice (some ⟨w.heap.size, 0, none⟩) 3 3] (w.alloc (.cells #[Value.string ({ data := #[40] }), Value.string ({ data := #[49] }), Value.string ({ data := #[41] })] 9)) fun e w' => e = .returned (.bool true) ∧ Since w0 w' :=
  cutS ({ data := #[40, 49, 41] }) { data := #[115, 100, 115] } [⟨3, [40], 0⟩, ⟨2, [49], 1⟩, ⟨3, [41], 2⟩] #[Value.string ({ data := #[40] }), Value.string ({ data := #[49] }), Value.string ({ data := #[41] })] 3 w0 w h (by kernel_rfl) (by kernel_rfl) (by kernel_rfl) (by kernel_rfl)
theorem ncut4 (w0 w : World) (h : Since w0 w) (b : Nat) :
    Calls Tryd.prog 9 #[.string { data := #[61, 61, 61, 33, 61, 33, 60, 61, 60] }, .string { data := #[115, 115, 115, 115, 115] }, .slice (some ⟨b, 0, none⟩) 5 5] w fun e w' => e = .returned (.bool false) ∧ Since w0 w' :=
  cutL_no { data := #[61, 61, 61, 33, 61, 33, 60, 61, 60] } { data := #[115, 115, 115, 115, 115] } [⟨3, [61, 61], 0⟩, ⟨3, [61], 2⟩, ⟨3, [33, 61], 3⟩, ⟨3, [33], 5⟩, ⟨3, [60, 61], 6⟩, ⟨3, [60], 8⟩] 5 b w0 w h (by kernel_rfl) (by kernel_rfl) (by decide) (by decide)
theorem ncut1 (w0 w : World) (h : Since w0 w) :
    Calls Tryd.prog 9 #[.string { data := #[] }, .string { data := #[] }, .slice none 0 0] w fun e w' => e = .returned (.bool true) ∧ Since w0 w' :=
  cutL_nil { data := #[] } w0 w h (by kernel_rfl) (by kernel_rfl)
theorem ncut2 (w0 w : World) (h : Since w0 w) :
    Calls Tryd.prog 9 #[.string { data := #[32, 9, 10, 35, 32, 97, 108, 108, 32, 36, 10, 35] }, .string { data := #[] }, .slice none 0 0] w fun e w' => e = .returned (.bool true) ∧ Since w0 w' :=
  cutL_nil { data := #[32, 9, 10, 35, 32, 97, 108, 108, 32, 36, 10, 35] } w0 w h (by kernel_rfl) (by kernel_rfl)
theorem nnm1 (w0 w : World) (h : Since w0 w) :
    Calls Tryd.prog 13 #[.string { data := #[] }] w fun e w' => e = .returned (.bool false) ∧ Since w0 w' :=
  nameS { data := #[] } false w0 w h (by kernel_rfl) (by kernel_rfl)
theorem nnm2 (w0 w : World) (h : Since w0 w) :
    Calls Tryd.prog 13 #[.string { data := #[49, 97] }] w fun e w' => e = .returned (.bool false) ∧ Since w0 w' :=
  nameS { data := #[49, 97] } false w0 w h (by kernel_rfl) (by kernel_rfl)
theorem nnm3 (w0 w : World) (h : Since w0 w) :
    Calls Tryd.prog 13 #[.string { data := #[97, 32, 98] }] w fun e w' => e = .returned (.bool false) ∧ Since w0 w' :=
  nameS { data := #[97, 32, 98] } false w0 w h (by kernel_rfl) (by kernel_rfl)
end Go.Proofs.YtadljmpnopgihaaDoor.Lx
