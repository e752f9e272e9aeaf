/- The walk of the statement LexWord's function: it returns true at every text and every byte. Conditions: lex.signs holds its list. -/
import Derived.Test.YtadljmpnopgihaaDoorLexJ
import Derived.Test.YtadljmpnopgihaaDoorLexK
import Derived.Laws.IdiomStrings
namespace Go.Proofs.YtadljmpnopgihaaDoor.Lx
open Go Go.RowKit

theorem nameT (s : ByteArray) (v : Bool) (hv : nme s.data.toList = v) (hs : s.size ≤ maxLen) (w0 w : World) (h : Since w0 w) :
    Calls Tryd.prog 13 #[.string s] w fun e w' => e = .returned (.bool v) ∧ Since w0 w' :=
  (name_any s w hs h.1).mono fun _ _ ⟨he, hb⟩ => ⟨hv ▸ he, h.next hb⟩
theorem reservedT (s : ByteArray) (v : Bool) (hv : rsv s.data.toList = v) (w : World) :
    Calls Tryd.prog 12 #[.string s] w fun e w' => e = .returned (.bool v) ∧ w = w' :=
  (reserved_any s w).mono fun _ _ ⟨he, hb⟩ => ⟨hv ▸ he, hb⟩
theorem tokensT (s : ByteArray) (ts : List Tok) (hr : res s.data.toList = (ts, 0, 0)) (hne : ts ≠ []) (hs : s.size ≤ maxLen) (w0 w : World) (h : Since w0 w) :
    Calls Tryd.prog 14 #[.string s] w fun e w' => ∃ g cap, e = .returned (.tuple #[.slice (some ⟨g, 0, none⟩) ts.length cap, .int .i64 0, .int .i64 0]) ∧ w.heap.size ≤ g ∧ g < w'.heap.size ∧ ts.length ≤ cap ∧ cap ≤ maxLen ∧
      w'.ownsRow w.heap.size 36 3 (.slice (some ⟨g, 0, none⟩) ts.length cap) ts.length (cellsOf ts) ∧ Since w0 w' :=
  (tokens_some s ts w hs h.1 hr hne).mono fun _ _ ⟨g, cap, he, h1, h2, h3, h4, h5, h6⟩ => ⟨g, cap, he, h1, h2, h3, h4, h5, h.next h6⟩

theorem app_data (s : ByteArray) (b : UInt8) : (s ++ (⟨#[b]⟩ : ByteArray)).data.toList = s.data.toList ++ [b] := by simp
theorem app_size (s : ByteArray) (b : UInt8) : (s ++ (⟨#[b]⟩ : ByteArray)).size = s.size + 1 := by rw [Lib.size_eq, app_data, List.length_append, Lib.size_eq]; rfl
theorem conv_one (b : UInt8) (w : World) : (convert 40 9 (.slice (some ⟨w.heap.size, 0, none⟩) 1 1)).run Tryd.prog (w.alloc (.cells #[.int .u8 (b.toNat : Int)] 5)) = .ok (.string ⟨#[b]⟩) (w.alloc (.cells #[.int .u8 (b.toNat : Int)] 5)) :=
  run_convert_bytes_back (P := Tryd.prog) _ 40 9 5 ⟨w.heap.size, 0, none⟩ 1 [b] Tryd.underlying40 Tryd.underlying5 Tryd.underlying9
    (fun j hj => cells_new w #[.int .u8 (b.toNat : Int)] 5 j _ (by
      have : j = 0 := by simp at hj; exact hj
      subst this; rfl))

set_option maxHeartbeats 1600000 in
set_option maxRecDepth 100000 in
theorem word_long (s : ByteArray) (b : UInt8) (w : World) (hsg : SignsIn w) (hl : 1000 < s.size) :
    Calls Tryd.prog 7 #[.string s, .int .u8 (b.toNat : Int)] w fun e w' => e = .returned (.bool true) ∧ Below w.heap.size w w' := by
  have h0 := Since.start hsg
  go_enter Tryd.func7, Tryd.ntmps7
  go_wp2_with fail
  refine (works_any w _ h0).mono ?_
  rintro e w1 ⟨rfl, h1⟩
  go_wp2_with fail
  refine (works_any w _ h1).mono ?_
  rintro e w2 ⟨rfl, h2⟩
  go_wp2_with fail
  go_ret
  exact ⟨rfl, h2.2.2⟩
set_option maxHeartbeats 1600000 in
set_option maxRecDepth 100000 in
theorem word_none (s : ByteArray) (b : UInt8) (w : World) (hsg : SignsIn w) (hl : s.size ≤ 1000) (hn : nme s.data.toList = false) (hr : rsv s.data.toList = false) :
    Calls Tryd.prog 7 #[.string s, .int .u8 (b.toNat : Int)] w fun e w' => e = .returned (.bool true) ∧ Below w.heap.size w w' := by
  have h0 := Since.start hsg
  replace hn := Lib.hid hn
  replace hr := Lib.hid hr
  have hs : Hid (s.size ≤ maxLen) := Lib.hid (by unfold maxLen; omega)
  go_enter Tryd.func7, Tryd.ntmps7
  go_wp2_with fail
  refine (works_any w _ h0).mono ?_
  rintro e w1 ⟨rfl, h1⟩
  go_wp2_with fail
  refine (nameT s false hn.out hs.out w _ h1).mono ?_
  rintro e w2 ⟨rfl, h2⟩
  go_wp2_with fail
  refine (reservedT s false hr.out _).mono ?_
  rintro e w2 ⟨rfl, rfl⟩
  go_wp2_with fail
  go_ret
  exact ⟨rfl, h2.2.2⟩
set_option maxHeartbeats 1600000 in
set_option maxRecDepth 100000 in
theorem word_na (s : ByteArray) (b : UInt8) (w : World) (hsg : SignsIn w) (hl : s.size ≤ 32) (n : Bool) (hn : nme s.data.toList = n) (hr : rsv s.data.toList = !n) (hw : wordy s.data.toList = true) (h1 : (b.toNat : Int) < 48) :
    Calls Tryd.prog 7 #[.string s, .int .u8 (b.toNat : Int)] w fun e w' => e = .returned (.bool true) ∧ Below w.heap.size w w' := by
  have h0 := Since.start hsg
  replace hn := Lib.hid hn
  replace hr := Lib.hid hr
  have hs : Hid (s.size ≤ maxLen) := Lib.hid (by unfold maxLen; omega)
  have ht := Lib.hid (res_word s.data.toList hw)
  have kc := conv_one b
  have hls := app_size s b
  have hlm : Hid ((s ++ (⟨#[b]⟩ : ByteArray)).size ≤ maxLen) := Lib.hid (by unfold maxLen; omega)
  replace hls := Lib.hid hls
  have hno : Hid (nme (s.data.toList ++ [b]) = false) := Lib.hid (longer_no _ b hw (by simp [wth, bgn, dgt]; omega))
  clear hw
  have hq : ((b.toNat : Int) == 95) = false := by simp; omega
  go_enter Tryd.func7, Tryd.ntmps7
  go_wp2_with fail
  refine (works_any w _ h0).mono ?_
  rintro e w1 ⟨rfl, h1'⟩
  go_wp2_with fail
  refine (nameT s n hn.out hs.out w _ h1').mono ?_
  rintro e w2 ⟨rfl, h2'⟩
  go_wp2_with fail
  refine (reservedT s (!n) hr.out _).mono ?_
  rintro e w2 ⟨rfl, rfl⟩
  cases n
  all_goals
    go_wp2_with fail
    refine (tokensT s _ ht.out (by simp) hs.out w _ h2').mono ?_
    rintro e w3 ⟨g, cap, rfl, hg1, hg2, hc1, hc2, hown, h3⟩
    obtain ⟨c0, c1, c2⟩ := own_tok hown 0 ⟨1, s.data.toList, 0⟩ rfl
    simp only [Lib.mk_data] at c0 c1 c2
    clear hown
    have h4 := h3.alloc (.cells #[.int .u8 (b.toNat : Int)] 5)
    go_wp2_with fail
    have hc := nameT (s ++ ⟨#[b]⟩) false (by rw [app_data]; exact hno.out) hlm.out w _ h4
    refine hc.mono ?_
    clear hc
    rintro e w5 ⟨rfl, h5⟩
    go_wp2_with fail
    go_ret
    exact ⟨rfl, h5.2.2⟩
set_option maxHeartbeats 1600000 in
set_option maxRecDepth 100000 in
theorem word_nb (s : ByteArray) (b : UInt8) (w : World) (hsg : SignsIn w) (hl : s.size ≤ 32) (n : Bool) (hn : nme s.data.toList = n) (hr : rsv s.data.toList = !n) (hw : wordy s.data.toList = true) (h1 : 58 ≤ (b.toNat : Int)) (h2 : (b.toNat : Int) ≤ 64) :
    Calls Tryd.prog 7 #[.string s, .int .u8 (b.toNat : Int)] w fun e w' => e = .returned (.bool true) ∧ Below w.heap.size w w' := by
  have h0 := Since.start hsg
  replace hn := Lib.hid hn
  replace hr := Lib.hid hr
  have hs : Hid (s.size ≤ maxLen) := Lib.hid (by unfold maxLen; omega)
  have ht := Lib.hid (res_word s.data.toList hw)
  have kc := conv_one b
  have hls := app_size s b
  have hlm : Hid ((s ++ (⟨#[b]⟩ : ByteArray)).size ≤ maxLen) := Lib.hid (by unfold maxLen; omega)
  replace hls := Lib.hid hls
  have hno : Hid (nme (s.data.toList ++ [b]) = false) := Lib.hid (longer_no _ b hw (by simp [wth, bgn, dgt]; omega))
  clear hw
  have hq : ((b.toNat : Int) == 95) = false := by simp; omega
  go_enter Tryd.func7, Tryd.ntmps7
  go_wp2_with fail
  refine (works_any w _ h0).mono ?_
  rintro e w1 ⟨rfl, h1'⟩
  go_wp2_with fail
  refine (nameT s n hn.out hs.out w _ h1').mono ?_
  rintro e w2 ⟨rfl, h2'⟩
  go_wp2_with fail
  refine (reservedT s (!n) hr.out _).mono ?_
  rintro e w2 ⟨rfl, rfl⟩
  cases n
  all_goals
    go_wp2_with fail
    refine (tokensT s _ ht.out (by simp) hs.out w _ h2').mono ?_
    rintro e w3 ⟨g, cap, rfl, hg1, hg2, hc1, hc2, hown, h3⟩
    obtain ⟨c0, c1, c2⟩ := own_tok hown 0 ⟨1, s.data.toList, 0⟩ rfl
    simp only [Lib.mk_data] at c0 c1 c2
    clear hown
    have h4 := h3.alloc (.cells #[.int .u8 (b.toNat : Int)] 5)
    go_wp2_with fail
    have hc := nameT (s ++ ⟨#[b]⟩) false (by rw [app_data]; exact hno.out) hlm.out w _ h4
    refine hc.mono ?_
    clear hc
    rintro e w5 ⟨rfl, h5⟩
    go_wp2_with fail
    go_ret
    exact ⟨rfl, h5.2.2⟩
set_option maxHeartbeats 1600000 in
set_option maxRecDepth 100000 in
theorem word_nc (s : ByteArray) (b : UInt8) (w : World) (hsg : SignsIn w) (hl : s.size ≤ 32) (n : Bool) (hn : nme s.data.toList = n) (hr : rsv s.data.toList = !n) (hw : wordy s.data.toList = true) (h1 : 91 ≤ (b.toNat : Int)) (h2 : (b.toNat : Int) ≤ 94) :
    Calls Tryd.prog 7 #[.string s, .int .u8 (b.toNat : Int)] w fun e w' => e = .returned (.bool true) ∧ Below w.heap.size w w' := by
  have h0 := Since.start hsg
  replace hn := Lib.hid hn
  replace hr := Lib.hid hr
  have hs : Hid (s.size ≤ maxLen) := Lib.hid (by unfold maxLen; omega)
  have ht := Lib.hid (res_word s.data.toList hw)
  have kc := conv_one b
  have hls := app_size s b
  have hlm : Hid ((s ++ (⟨#[b]⟩ : ByteArray)).size ≤ maxLen) := Lib.hid (by unfold maxLen; omega)
  replace hls := Lib.hid hls
  have hno : Hid (nme (s.data.toList ++ [b]) = false) := Lib.hid (longer_no _ b hw (by simp [wth, bgn, dgt]; omega))
  clear hw
  have hq : ((b.toNat : Int) == 95) = false := by simp; omega
  go_enter Tryd.func7, Tryd.ntmps7
  go_wp2_with fail
  refine (works_any w _ h0).mono ?_
  rintro e w1 ⟨rfl, h1'⟩
  go_wp2_with fail
  refine (nameT s n hn.out hs.out w _ h1').mono ?_
  rintro e w2 ⟨rfl, h2'⟩
  go_wp2_with fail
  refine (reservedT s (!n) hr.out _).mono ?_
  rintro e w2 ⟨rfl, rfl⟩
  cases n
  all_goals
    go_wp2_with fail
    refine (tokensT s _ ht.out (by simp) hs.out w _ h2').mono ?_
    rintro e w3 ⟨g, cap, rfl, hg1, hg2, hc1, hc2, hown, h3⟩
    obtain ⟨c0, c1, c2⟩ := own_tok hown 0 ⟨1, s.data.toList, 0⟩ rfl
    simp only [Lib.mk_data] at c0 c1 c2
    clear hown
    have h4 := h3.alloc (.cells #[.int .u8 (b.toNat : Int)] 5)
    go_wp2_with fail
    have hc := nameT (s ++ ⟨#[b]⟩) false (by rw [app_data]; exact hno.out) hlm.out w _ h4
    refine hc.mono ?_
    clear hc
    rintro e w5 ⟨rfl, h5⟩
    go_wp2_with fail
    go_ret
    exact ⟨rfl, h5.2.2⟩
set_option maxHeartbeats 1600000 in
set_option maxRecDepth 100000 in
theorem word_nd (s : ByteArray) (b : UInt8) (w : World) (hsg : SignsIn w) (hl : s.size ≤ 32) (n : Bool) (hn : nme s.data.toList = n) (hr : rsv s.data.toList = !n) (hw : wordy s.data.toList = true) (h1 : 96 ≤ (b.toNat : Int)) (h2 : (b.toNat : Int) ≤ 96) :
    Calls Tryd.prog 7 #[.string s, .int .u8 (b.toNat : Int)] w fun e w' => e = .returned (.bool true) ∧ Below w.heap.size w w' := by
  have h0 := Since.start hsg
  replace hn := Lib.hid hn
  replace hr := Lib.hid hr
  have hs : Hid (s.size ≤ maxLen) := Lib.hid (by unfold maxLen; omega)
  have ht := Lib.hid (res_word s.data.toList hw)
  have kc := conv_one b
  have hls := app_size s b
  have hlm : Hid ((s ++ (⟨#[b]⟩ : ByteArray)).size ≤ maxLen) := Lib.hid (by unfold maxLen; omega)
  replace hls := Lib.hid hls
  have hno : Hid (nme (s.data.toList ++ [b]) = false) := Lib.hid (longer_no _ b hw (by simp [wth, bgn, dgt]; omega))
  clear hw
  have hq : ((b.toNat : Int) == 95) = false := by simp; omega
  go_enter Tryd.func7, Tryd.ntmps7
  go_wp2_with fail
  refine (works_any w _ h0).mono ?_
  rintro e w1 ⟨rfl, h1'⟩
  go_wp2_with fail
  refine (nameT s n hn.out hs.out w _ h1').mono ?_
  rintro e w2 ⟨rfl, h2'⟩
  go_wp2_with fail
  refine (reservedT s (!n) hr.out _).mono ?_
  rintro e w2 ⟨rfl, rfl⟩
  cases n
  all_goals
    go_wp2_with fail
    refine (tokensT s _ ht.out (by simp) hs.out w _ h2').mono ?_
    rintro e w3 ⟨g, cap, rfl, hg1, hg2, hc1, hc2, hown, h3⟩
    obtain ⟨c0, c1, c2⟩ := own_tok hown 0 ⟨1, s.data.toList, 0⟩ rfl
    simp only [Lib.mk_data] at c0 c1 c2
    clear hown
    have h4 := h3.alloc (.cells #[.int .u8 (b.toNat : Int)] 5)
    go_wp2_with fail
    have hc := nameT (s ++ ⟨#[b]⟩) false (by rw [app_data]; exact hno.out) hlm.out w _ h4
    refine hc.mono ?_
    clear hc
    rintro e w5 ⟨rfl, h5⟩
    go_wp2_with fail
    go_ret
    exact ⟨rfl, h5.2.2⟩
set_option maxHeartbeats 1600000 in
set_option maxRecDepth 100000 in
theorem word_ne (s : ByteArray) (b : UInt8) (w : World) (hsg : SignsIn w) (hl : s.size ≤ 32) (n : Bool) (hn : nme s.data.toList = n) (hr : rsv s.data.toList = !n) (hw : wordy s.data.toList = true) (h1 : 123 ≤ (b.toNat : Int)) :
    Calls Tryd.prog 7 #[.string s, .int .u8 (b.toNat : Int)] w fun e w' => e = .returned (.bool true) ∧ Below w.heap.size w w' := by
  have h0 := Since.start hsg
  replace hn := Lib.hid hn
  replace hr := Lib.hid hr
  have hs : Hid (s.size ≤ maxLen) := Lib.hid (by unfold maxLen; omega)
  have ht := Lib.hid (res_word s.data.toList hw)
  have kc := conv_one b
  have hls := app_size s b
  have hlm : Hid ((s ++ (⟨#[b]⟩ : ByteArray)).size ≤ maxLen) := Lib.hid (by unfold maxLen; omega)
  replace hls := Lib.hid hls
  have hno : Hid (nme (s.data.toList ++ [b]) = false) := Lib.hid (longer_no _ b hw (by simp [wth, bgn, dgt]; omega))
  clear hw
  have hq : ((b.toNat : Int) == 95) = false := by simp; omega
  go_enter Tryd.func7, Tryd.ntmps7
  go_wp2_with fail
  refine (works_any w _ h0).mono ?_
  rintro e w1 ⟨rfl, h1'⟩
  go_wp2_with fail
  refine (nameT s n hn.out hs.out w _ h1').mono ?_
  rintro e w2 ⟨rfl, h2'⟩
  go_wp2_with fail
  refine (reservedT s (!n) hr.out _).mono ?_
  rintro e w2 ⟨rfl, rfl⟩
  cases n
  all_goals
    go_wp2_with fail
    refine (tokensT s _ ht.out (by simp) hs.out w _ h2').mono ?_
    rintro e w3 ⟨g, cap, rfl, hg1, hg2, hc1, hc2, hown, h3⟩
    obtain ⟨c0, c1, c2⟩ := own_tok hown 0 ⟨1, s.data.toList, 0⟩ rfl
    simp only [Lib.mk_data] at c0 c1 c2
    clear hown
    have h4 := h3.alloc (.cells #[.int .u8 (b.toNat : Int)] 5)
    go_wp2_with fail
    have hc := nameT (s ++ ⟨#[b]⟩) false (by rw [app_data]; exact hno.out) hlm.out w _ h4
    refine hc.mono ?_
    clear hc
    rintro e w5 ⟨rfl, h5⟩
    go_wp2_with fail
    go_ret
    exact ⟨rfl, h5.2.2⟩
set_option maxHeartbeats 1600000 in
set_option maxRecDepth 100000 in
theorem word_ylo (s : ByteArray) (b : UInt8) (w : World) (hsg : SignsIn w) (hl : s.size ≤ 32) (n : Bool) (hn : nme s.data.toList = n) (hr : rsv s.data.toList = !n) (hw : wordy s.data.toList = true) (hsz : s.size + 1 ≤ 32) (h1 : 97 ≤ (b.toNat : Int)) (h2 : (b.toNat : Int) ≤ 122) :
    Calls Tryd.prog 7 #[.string s, .int .u8 (b.toNat : Int)] w fun e w' => e = .returned (.bool true) ∧ Below w.heap.size w w' := by
  have h0 := Since.start hsg
  replace hn := Lib.hid hn
  replace hr := Lib.hid hr
  have hs : Hid (s.size ≤ maxLen) := Lib.hid (by unfold maxLen; omega)
  have ht := Lib.hid (res_word s.data.toList hw)
  have kc := conv_one b
  have hls := app_size s b
  have hlm : Hid ((s ++ (⟨#[b]⟩ : ByteArray)).size ≤ maxLen) := Lib.hid (by unfold maxLen; omega)
  replace hls := Lib.hid hls
  have hyes : Hid (rsv (s.data.toList ++ [b]) = false → nme (s.data.toList ++ [b]) = true) := Lib.hid fun h3 => longer_yes _ b hw (by simp [wth, bgn, dgt]; omega) (by rw [← Lib.size_eq]; exact hsz) h3
  have hrn : Hid (rsv (s.data.toList ++ [b]) = true → nme (s.data.toList ++ [b]) = false) := Lib.hid fun h1 => by unfold nme; rw [h1]; simp
  clear hw
  skip
  go_enter Tryd.func7, Tryd.ntmps7
  go_wp2_with fail
  refine (works_any w _ h0).mono ?_
  rintro e w1 ⟨rfl, h1'⟩
  go_wp2_with fail
  refine (nameT s n hn.out hs.out w _ h1').mono ?_
  rintro e w2 ⟨rfl, h2'⟩
  go_wp2_with fail
  refine (reservedT s (!n) hr.out _).mono ?_
  rintro e w2 ⟨rfl, rfl⟩
  cases n
  all_goals
    go_wp2_with fail
    refine (tokensT s _ ht.out (by simp) hs.out w _ h2').mono ?_
    rintro e w3 ⟨g, cap, rfl, hg1, hg2, hc1, hc2, hown, h3⟩
    obtain ⟨c0, c1, c2⟩ := own_tok hown 0 ⟨1, s.data.toList, 0⟩ rfl
    simp only [Lib.mk_data] at c0 c1 c2
    clear hown
    have h4 := h3.alloc (.cells #[.int .u8 (b.toNat : Int)] 5)
    go_wp2_with fail
    cases hrl : rsv (s.data.toList ++ [b])
    · replace hrl := Lib.hid hrl
      have hc := nameT (s ++ ⟨#[b]⟩) true (by rw [app_data]; exact hyes.out hrl.out) hlm.out w _ h4
      refine hc.mono ?_
      clear hc
      rintro e w5 ⟨rfl, h5⟩
      go_wp2_with fail
      go_ret
      exact ⟨rfl, h5.2.2⟩
    · replace hrl := Lib.hid hrl
      have hc := nameT (s ++ ⟨#[b]⟩) false (by rw [app_data]; exact hrn.out hrl.out) hlm.out w _ h4
      refine hc.mono ?_
      clear hc
      rintro e w5 ⟨rfl, h5⟩
      go_wp2_with fail
      have hc := reservedT (s ++ ⟨#[b]⟩) true (by rw [app_data]; exact hrl.out) w5
      refine hc.mono ?_
      clear hc
      rintro e w6 ⟨rfl, rfl⟩
      go_wp2_with fail
      go_ret
      exact ⟨rfl, h5.2.2⟩
set_option maxHeartbeats 1600000 in
set_option maxRecDepth 100000 in
theorem word_zlo (s : ByteArray) (b : UInt8) (w : World) (hsg : SignsIn w) (hl : s.size ≤ 32) (n : Bool) (hn : nme s.data.toList = n) (hr : rsv s.data.toList = !n) (hw : wordy s.data.toList = true) (hsz : 32 < s.size + 1) (h1 : 97 ≤ (b.toNat : Int)) (h2 : (b.toNat : Int) ≤ 122) :
    Calls Tryd.prog 7 #[.string s, .int .u8 (b.toNat : Int)] w fun e w' => e = .returned (.bool true) ∧ Below w.heap.size w w' := by
  have h0 := Since.start hsg
  replace hn := Lib.hid hn
  replace hr := Lib.hid hr
  have hs : Hid (s.size ≤ maxLen) := Lib.hid (by unfold maxLen; omega)
  have ht := Lib.hid (res_word s.data.toList hw)
  have kc := conv_one b
  have hls := app_size s b
  replace hls := Lib.hid hls
  skip
  clear hw
  skip
  go_enter Tryd.func7, Tryd.ntmps7
  go_wp2_with fail
  refine (works_any w _ h0).mono ?_
  rintro e w1 ⟨rfl, h1'⟩
  go_wp2_with fail
  refine (nameT s n hn.out hs.out w _ h1').mono ?_
  rintro e w2 ⟨rfl, h2'⟩
  go_wp2_with fail
  refine (reservedT s (!n) hr.out _).mono ?_
  rintro e w2 ⟨rfl, rfl⟩
  cases n
  all_goals
    go_wp2_with fail
    refine (tokensT s _ ht.out (by simp) hs.out w _ h2').mono ?_
    rintro e w3 ⟨g, cap, rfl, hg1, hg2, hc1, hc2, hown, h3⟩
    obtain ⟨c0, c1, c2⟩ := own_tok hown 0 ⟨1, s.data.toList, 0⟩ rfl
    simp only [Lib.mk_data] at c0 c1 c2
    clear hown
    have h4 := h3.alloc (.cells #[.int .u8 (b.toNat : Int)] 5)
    go_wp2_with fail
    go_ret
    exact ⟨rfl, h4.2.2⟩
set_option maxHeartbeats 1600000 in
set_option maxRecDepth 100000 in
theorem word_yup (s : ByteArray) (b : UInt8) (w : World) (hsg : SignsIn w) (hl : s.size ≤ 32) (n : Bool) (hn : nme s.data.toList = n) (hr : rsv s.data.toList = !n) (hw : wordy s.data.toList = true) (hsz : s.size + 1 ≤ 32) (h1 : 65 ≤ (b.toNat : Int)) (h2 : (b.toNat : Int) ≤ 90) :
    Calls Tryd.prog 7 #[.string s, .int .u8 (b.toNat : Int)] w fun e w' => e = .returned (.bool true) ∧ Below w.heap.size w w' := by
  have h0 := Since.start hsg
  replace hn := Lib.hid hn
  replace hr := Lib.hid hr
  have hs : Hid (s.size ≤ maxLen) := Lib.hid (by unfold maxLen; omega)
  have ht := Lib.hid (res_word s.data.toList hw)
  have kc := conv_one b
  have hls := app_size s b
  have hlm : Hid ((s ++ (⟨#[b]⟩ : ByteArray)).size ≤ maxLen) := Lib.hid (by unfold maxLen; omega)
  replace hls := Lib.hid hls
  have hyes : Hid (rsv (s.data.toList ++ [b]) = false → nme (s.data.toList ++ [b]) = true) := Lib.hid fun h3 => longer_yes _ b hw (by simp [wth, bgn, dgt]; omega) (by rw [← Lib.size_eq]; exact hsz) h3
  have hrn : Hid (rsv (s.data.toList ++ [b]) = true → nme (s.data.toList ++ [b]) = false) := Lib.hid fun h1 => by unfold nme; rw [h1]; simp
  clear hw
  skip
  go_enter Tryd.func7, Tryd.ntmps7
  go_wp2_with fail
  refine (works_any w _ h0).mono ?_
  rintro e w1 ⟨rfl, h1'⟩
  go_wp2_with fail
  refine (nameT s n hn.out hs.out w _ h1').mono ?_
  rintro e w2 ⟨rfl, h2'⟩
  go_wp2_with fail
  refine (reservedT s (!n) hr.out _).mono ?_
  rintro e w2 ⟨rfl, rfl⟩
  cases n
  all_goals
    go_wp2_with fail
    refine (tokensT s _ ht.out (by simp) hs.out w _ h2').mono ?_
    rintro e w3 ⟨g, cap, rfl, hg1, hg2, hc1, hc2, hown, h3⟩
    obtain ⟨c0, c1, c2⟩ := own_tok hown 0 ⟨1, s.data.toList, 0⟩ rfl
    simp only [Lib.mk_data] at c0 c1 c2
    clear hown
    have h4 := h3.alloc (.cells #[.int .u8 (b.toNat : Int)] 5)
    go_wp2_with fail
    cases hrl : rsv (s.data.toList ++ [b])
    · replace hrl := Lib.hid hrl
      have hc := nameT (s ++ ⟨#[b]⟩) true (by rw [app_data]; exact hyes.out hrl.out) hlm.out w _ h4
      refine hc.mono ?_
      clear hc
      rintro e w5 ⟨rfl, h5⟩
      go_wp2_with fail
      go_ret
      exact ⟨rfl, h5.2.2⟩
    · replace hrl := Lib.hid hrl
      have hc := nameT (s ++ ⟨#[b]⟩) false (by rw [app_data]; exact hrn.out hrl.out) hlm.out w _ h4
      refine hc.mono ?_
      clear hc
      rintro e w5 ⟨rfl, h5⟩
      go_wp2_with fail
      have hc := reservedT (s ++ ⟨#[b]⟩) true (by rw [app_data]; exact hrl.out) w5
      refine hc.mono ?_
      clear hc
      rintro e w6 ⟨rfl, rfl⟩
      go_wp2_with fail
      go_ret
      exact ⟨rfl, h5.2.2⟩
set_option maxHeartbeats 1600000 in
set_option maxRecDepth 100000 in
theorem word_zup (s : ByteArray) (b : UInt8) (w : World) (hsg : SignsIn w) (hl : s.size ≤ 32) (n : Bool) (hn : nme s.data.toList = n) (hr : rsv s.data.toList = !n) (hw : wordy s.data.toList = true) (hsz : 32 < s.size + 1) (h1 : 65 ≤ (b.toNat : Int)) (h2 : (b.toNat : Int) ≤ 90) :
    Calls Tryd.prog 7 #[.string s, .int .u8 (b.toNat : Int)] w fun e w' => e = .returned (.bool true) ∧ Below w.heap.size w w' := by
  have h0 := Since.start hsg
  replace hn := Lib.hid hn
  replace hr := Lib.hid hr
  have hs : Hid (s.size ≤ maxLen) := Lib.hid (by unfold maxLen; omega)
  have ht := Lib.hid (res_word s.data.toList hw)
  have kc := conv_one b
  have hls := app_size s b
  replace hls := Lib.hid hls
  skip
  clear hw
  skip
  go_enter Tryd.func7, Tryd.ntmps7
  go_wp2_with fail
  refine (works_any w _ h0).mono ?_
  rintro e w1 ⟨rfl, h1'⟩
  go_wp2_with fail
  refine (nameT s n hn.out hs.out w _ h1').mono ?_
  rintro e w2 ⟨rfl, h2'⟩
  go_wp2_with fail
  refine (reservedT s (!n) hr.out _).mono ?_
  rintro e w2 ⟨rfl, rfl⟩
  cases n
  all_goals
    go_wp2_with fail
    refine (tokensT s _ ht.out (by simp) hs.out w _ h2').mono ?_
    rintro e w3 ⟨g, cap, rfl, hg1, hg2, hc1, hc2, hown, h3⟩
    obtain ⟨c0, c1, c2⟩ := own_tok hown 0 ⟨1, s.data.toList, 0⟩ rfl
    simp only [Lib.mk_data] at c0 c1 c2
    clear hown
    have h4 := h3.alloc (.cells #[.int .u8 (b.toNat : Int)] 5)
    go_wp2_with fail
    go_ret
    exact ⟨rfl, h4.2.2⟩
set_option maxHeartbeats 1600000 in
set_option maxRecDepth 100000 in
theorem word_ydi (s : ByteArray) (b : UInt8) (w : World) (hsg : SignsIn w) (hl : s.size ≤ 32) (n : Bool) (hn : nme s.data.toList = n) (hr : rsv s.data.toList = !n) (hw : wordy s.data.toList = true) (hsz : s.size + 1 ≤ 32) (h1 : 48 ≤ (b.toNat : Int)) (h2 : (b.toNat : Int) ≤ 57) :
    Calls Tryd.prog 7 #[.string s, .int .u8 (b.toNat : Int)] w fun e w' => e = .returned (.bool true) ∧ Below w.heap.size w w' := by
  have h0 := Since.start hsg
  replace hn := Lib.hid hn
  replace hr := Lib.hid hr
  have hs : Hid (s.size ≤ maxLen) := Lib.hid (by unfold maxLen; omega)
  have ht := Lib.hid (res_word s.data.toList hw)
  have kc := conv_one b
  have hls := app_size s b
  have hlm : Hid ((s ++ (⟨#[b]⟩ : ByteArray)).size ≤ maxLen) := Lib.hid (by unfold maxLen; omega)
  replace hls := Lib.hid hls
  have hyes : Hid (rsv (s.data.toList ++ [b]) = false → nme (s.data.toList ++ [b]) = true) := Lib.hid fun h3 => longer_yes _ b hw (by simp [wth, bgn, dgt]; omega) (by rw [← Lib.size_eq]; exact hsz) h3
  have hrn : Hid (rsv (s.data.toList ++ [b]) = true → nme (s.data.toList ++ [b]) = false) := Lib.hid fun h1 => by unfold nme; rw [h1]; simp
  clear hw
  skip
  go_enter Tryd.func7, Tryd.ntmps7
  go_wp2_with fail
  refine (works_any w _ h0).mono ?_
  rintro e w1 ⟨rfl, h1'⟩
  go_wp2_with fail
  refine (nameT s n hn.out hs.out w _ h1').mono ?_
  rintro e w2 ⟨rfl, h2'⟩
  go_wp2_with fail
  refine (reservedT s (!n) hr.out _).mono ?_
  rintro e w2 ⟨rfl, rfl⟩
  cases n
  all_goals
    go_wp2_with fail
    refine (tokensT s _ ht.out (by simp) hs.out w _ h2').mono ?_
    rintro e w3 ⟨g, cap, rfl, hg1, hg2, hc1, hc2, hown, h3⟩
    obtain ⟨c0, c1, c2⟩ := own_tok hown 0 ⟨1, s.data.toList, 0⟩ rfl
    simp only [Lib.mk_data] at c0 c1 c2
    clear hown
    have h4 := h3.alloc (.cells #[.int .u8 (b.toNat : Int)] 5)
    go_wp2_with fail
    cases hrl : rsv (s.data.toList ++ [b])
    · replace hrl := Lib.hid hrl
      have hc := nameT (s ++ ⟨#[b]⟩) true (by rw [app_data]; exact hyes.out hrl.out) hlm.out w _ h4
      refine hc.mono ?_
      clear hc
      rintro e w5 ⟨rfl, h5⟩
      go_wp2_with fail
      go_ret
      exact ⟨rfl, h5.2.2⟩
    · replace hrl := Lib.hid hrl
      have hc := nameT (s ++ ⟨#[b]⟩) false (by rw [app_data]; exact hrn.out hrl.out) hlm.out w _ h4
      refine hc.mono ?_
      clear hc
      rintro e w5 ⟨rfl, h5⟩
      go_wp2_with fail
      have hc := reservedT (s ++ ⟨#[b]⟩) true (by rw [app_data]; exact hrl.out) w5
      refine hc.mono ?_
      clear hc
      rintro e w6 ⟨rfl, rfl⟩
      go_wp2_with fail
      go_ret
      exact ⟨rfl, h5.2.2⟩
set_option maxHeartbeats 1600000 in
set_option maxRecDepth 100000 in
theorem word_zdi (s : ByteArray) (b : UInt8) (w : World) (hsg : SignsIn w) (hl : s.size ≤ 32) (n : Bool) (hn : nme s.data.toList = n) (hr : rsv s.data.toList = !n) (hw : wordy s.data.toList = true) (hsz : 32 < s.size + 1) (h1 : 48 ≤ (b.toNat : Int)) (h2 : (b.toNat : Int) ≤ 57) :
    Calls Tryd.prog 7 #[.string s, .int .u8 (b.toNat : Int)] w fun e w' => e = .returned (.bool true) ∧ Below w.heap.size w w' := by
  have h0 := Since.start hsg
  replace hn := Lib.hid hn
  replace hr := Lib.hid hr
  have hs : Hid (s.size ≤ maxLen) := Lib.hid (by unfold maxLen; omega)
  have ht := Lib.hid (res_word s.data.toList hw)
  have kc := conv_one b
  have hls := app_size s b
  replace hls := Lib.hid hls
  skip
  clear hw
  skip
  go_enter Tryd.func7, Tryd.ntmps7
  go_wp2_with fail
  refine (works_any w _ h0).mono ?_
  rintro e w1 ⟨rfl, h1'⟩
  go_wp2_with fail
  refine (nameT s n hn.out hs.out w _ h1').mono ?_
  rintro e w2 ⟨rfl, h2'⟩
  go_wp2_with fail
  refine (reservedT s (!n) hr.out _).mono ?_
  rintro e w2 ⟨rfl, rfl⟩
  cases n
  all_goals
    go_wp2_with fail
    refine (tokensT s _ ht.out (by simp) hs.out w _ h2').mono ?_
    rintro e w3 ⟨g, cap, rfl, hg1, hg2, hc1, hc2, hown, h3⟩
    obtain ⟨c0, c1, c2⟩ := own_tok hown 0 ⟨1, s.data.toList, 0⟩ rfl
    simp only [Lib.mk_data] at c0 c1 c2
    clear hown
    have h4 := h3.alloc (.cells #[.int .u8 (b.toNat : Int)] 5)
    go_wp2_with fail
    go_ret
    exact ⟨rfl, h4.2.2⟩
set_option maxHeartbeats 1600000 in
set_option maxRecDepth 100000 in
theorem word_yus (s : ByteArray) (b : UInt8) (w : World) (hsg : SignsIn w) (hl : s.size ≤ 32) (n : Bool) (hn : nme s.data.toList = n) (hr : rsv s.data.toList = !n) (hw : wordy s.data.toList = true) (hsz : s.size + 1 ≤ 32) (h1 : ((b.toNat : Int) == 95) = true) :
    Calls Tryd.prog 7 #[.string s, .int .u8 (b.toNat : Int)] w fun e w' => e = .returned (.bool true) ∧ Below w.heap.size w w' := by
  have h0 := Since.start hsg
  replace hn := Lib.hid hn
  replace hr := Lib.hid hr
  have hs : Hid (s.size ≤ maxLen) := Lib.hid (by unfold maxLen; omega)
  have ht := Lib.hid (res_word s.data.toList hw)
  have hb95 : (b.toNat : Int) = 95 := by simpa using h1
  have kc : ∀ w : World, (convert 40 9 (.slice (some ⟨w.heap.size, 0, none⟩) 1 1)).run Tryd.prog (w.alloc (.cells #[.int .u8 95] 5)) = .ok (.string ⟨#[b]⟩) (w.alloc (.cells #[.int .u8 95] 5)) := fun w => by
    have h := conv_one b w
    rw [hb95] at h
    exact h
  clear h1
  have hls := app_size s b
  have hlm : Hid ((s ++ (⟨#[b]⟩ : ByteArray)).size ≤ maxLen) := Lib.hid (by unfold maxLen; omega)
  replace hls := Lib.hid hls
  have hyes : Hid (rsv (s.data.toList ++ [b]) = false → nme (s.data.toList ++ [b]) = true) := Lib.hid fun h3 => longer_yes _ b hw (by simp [wth, bgn, dgt]; omega) (by rw [← Lib.size_eq]; exact hsz) h3
  have hrn : Hid (rsv (s.data.toList ++ [b]) = true → nme (s.data.toList ++ [b]) = false) := Lib.hid fun h1 => by unfold nme; rw [h1]; simp
  clear hw
  skip
  go_enter Tryd.func7, Tryd.ntmps7
  go_wp2_with fail
  refine (works_any w _ h0).mono ?_
  rintro e w1 ⟨rfl, h1'⟩
  go_wp2_with fail
  refine (nameT s n hn.out hs.out w _ h1').mono ?_
  rintro e w2 ⟨rfl, h2'⟩
  go_wp2_with fail
  refine (reservedT s (!n) hr.out _).mono ?_
  rintro e w2 ⟨rfl, rfl⟩
  cases n
  all_goals
    go_wp2_with fail
    refine (tokensT s _ ht.out (by simp) hs.out w _ h2').mono ?_
    rintro e w3 ⟨g, cap, rfl, hg1, hg2, hc1, hc2, hown, h3⟩
    obtain ⟨c0, c1, c2⟩ := own_tok hown 0 ⟨1, s.data.toList, 0⟩ rfl
    simp only [Lib.mk_data] at c0 c1 c2
    clear hown
    have h4 := h3.alloc (.cells #[.int .u8 95] 5)
    go_wp2_with fail
    cases hrl : rsv (s.data.toList ++ [b])
    · replace hrl := Lib.hid hrl
      have hc := nameT (s ++ ⟨#[b]⟩) true (by rw [app_data]; exact hyes.out hrl.out) hlm.out w _ h4
      refine hc.mono ?_
      clear hc
      rintro e w5 ⟨rfl, h5⟩
      go_wp2_with fail
      go_ret
      exact ⟨rfl, h5.2.2⟩
    · replace hrl := Lib.hid hrl
      have hc := nameT (s ++ ⟨#[b]⟩) false (by rw [app_data]; exact hrn.out hrl.out) hlm.out w _ h4
      refine hc.mono ?_
      clear hc
      rintro e w5 ⟨rfl, h5⟩
      go_wp2_with fail
      have hc := reservedT (s ++ ⟨#[b]⟩) true (by rw [app_data]; exact hrl.out) w5
      refine hc.mono ?_
      clear hc
      rintro e w6 ⟨rfl, rfl⟩
      go_wp2_with fail
      go_ret
      exact ⟨rfl, h5.2.2⟩
set_option maxHeartbeats 1600000 in
set_option maxRecDepth 100000 in
theorem word_zus (s : ByteArray) (b : UInt8) (w : World) (hsg : SignsIn w) (hl : s.size ≤ 32) (n : Bool) (hn : nme s.data.toList = n) (hr : rsv s.data.toList = !n) (hw : wordy s.data.toList = true) (hsz : 32 < s.size + 1) (h1 : ((b.toNat : Int) == 95) = true) :
    Calls Tryd.prog 7 #[.string s, .int .u8 (b.toNat : Int)] w fun e w' => e = .returned (.bool true) ∧ Below w.heap.size w w' := by
  have h0 := Since.start hsg
  replace hn := Lib.hid hn
  replace hr := Lib.hid hr
  have hs : Hid (s.size ≤ maxLen) := Lib.hid (by unfold maxLen; omega)
  have ht := Lib.hid (res_word s.data.toList hw)
  have hb95 : (b.toNat : Int) = 95 := by simpa using h1
  have kc : ∀ w : World, (convert 40 9 (.slice (some ⟨w.heap.size, 0, none⟩) 1 1)).run Tryd.prog (w.alloc (.cells #[.int .u8 95] 5)) = .ok (.string ⟨#[b]⟩) (w.alloc (.cells #[.int .u8 95] 5)) := fun w => by
    have h := conv_one b w
    rw [hb95] at h
    exact h
  clear h1
  have hls := app_size s b
  replace hls := Lib.hid hls
  skip
  clear hw
  skip
  go_enter Tryd.func7, Tryd.ntmps7
  go_wp2_with fail
  refine (works_any w _ h0).mono ?_
  rintro e w1 ⟨rfl, h1'⟩
  go_wp2_with fail
  refine (nameT s n hn.out hs.out w _ h1').mono ?_
  rintro e w2 ⟨rfl, h2'⟩
  go_wp2_with fail
  refine (reservedT s (!n) hr.out _).mono ?_
  rintro e w2 ⟨rfl, rfl⟩
  cases n
  all_goals
    go_wp2_with fail
    refine (tokensT s _ ht.out (by simp) hs.out w _ h2').mono ?_
    rintro e w3 ⟨g, cap, rfl, hg1, hg2, hc1, hc2, hown, h3⟩
    obtain ⟨c0, c1, c2⟩ := own_tok hown 0 ⟨1, s.data.toList, 0⟩ rfl
    simp only [Lib.mk_data] at c0 c1 c2
    clear hown
    have h4 := h3.alloc (.cells #[.int .u8 95] 5)
    go_wp2_with fail
    go_ret
    exact ⟨rfl, h4.2.2⟩
theorem word_some (s : ByteArray) (b : UInt8) (w : World) (hsg : SignsIn w) (hl : s.size ≤ 32) (n : Bool) (hn : nme s.data.toList = n) (hr : rsv s.data.toList = !n) (hw : wordy s.data.toList = true) :
    Calls Tryd.prog 7 #[.string s, .int .u8 (b.toNat : Int)] w fun e w' => e = .returned (.bool true) ∧ Below w.heap.size w w' := by
  have hc : (b.toNat : Int) < 48 ∨ (58 ≤ (b.toNat : Int) ∧ (b.toNat : Int) ≤ 64) ∨ (91 ≤ (b.toNat : Int) ∧ (b.toNat : Int) ≤ 94) ∨ (96 ≤ (b.toNat : Int) ∧ (b.toNat : Int) ≤ 96) ∨ 123 ≤ (b.toNat : Int) ∨ (97 ≤ (b.toNat : Int) ∧ (b.toNat : Int) ≤ 122) ∨ (65 ≤ (b.toNat : Int) ∧ (b.toNat : Int) ≤ 90) ∨ (48 ≤ (b.toNat : Int) ∧ (b.toNat : Int) ≤ 57) ∨ (b.toNat : Int) = 95 := by omega
  rcases hc with h | ⟨h, h'⟩ | ⟨h, h'⟩ | ⟨h, h'⟩ | h | ⟨h, h'⟩ | ⟨h, h'⟩ | ⟨h, h'⟩ | h
  · exact word_na s b w hsg hl n hn hr hw h
  · exact word_nb s b w hsg hl n hn hr hw h h'
  · exact word_nc s b w hsg hl n hn hr hw h h'
  · exact word_nd s b w hsg hl n hn hr hw h h'
  · exact word_ne s b w hsg hl n hn hr hw h
  all_goals by_cases hsz : s.size + 1 ≤ 32
  · exact word_ylo s b w hsg hl n hn hr hw hsz h h'
  · exact word_zlo s b w hsg hl n hn hr hw (by omega) h h'
  · exact word_yup s b w hsg hl n hn hr hw hsz h h'
  · exact word_zup s b w hsg hl n hn hr hw (by omega) h h'
  · exact word_ydi s b w hsg hl n hn hr hw hsz h h'
  · exact word_zdi s b w hsg hl n hn hr hw (by omega) h h'
  · exact word_yus s b w hsg hl n hn hr hw hsz (by simpa using h)
  · exact word_zus s b w hsg hl n hn hr hw (by omega) (by simpa using h)
theorem word_any (s : ByteArray) (b : UInt8) (w : World) (hsg : SignsIn w) :
    Calls Tryd.prog 7 #[.string s, .int .u8 (b.toNat : Int)] w fun e w' => e = .returned (.bool true) ∧ Below w.heap.size w w' := by
  by_cases hl : 1000 < s.size
  · exact word_long s b w hsg hl
  · cases hn : nme s.data.toList
    · cases hr : rsv s.data.toList
      · exact word_none s b w hsg (by omega) hn hr
      · have hw := rsv_wordy _ hr
        have h32 : s.size ≤ 32 := by unfold wordy at hw; simp only [Bool.and_eq_true, decide_eq_true_iff] at hw; rw [Lib.size_eq]; exact hw.2
        exact word_some s b w hsg h32 false hn hr hw
    · have hw := ((nme_iff _).1 hn)
      have h32 : s.size ≤ 32 := by have hw := hw.1; unfold wordy at hw; simp only [Bool.and_eq_true, decide_eq_true_iff] at hw; rw [Lib.size_eq]; exact hw.2
      exact word_some s b w hsg h32 true hn hw.2 hw.1
end Go.Proofs.YtadljmpnopgihaaDoor.Lx
