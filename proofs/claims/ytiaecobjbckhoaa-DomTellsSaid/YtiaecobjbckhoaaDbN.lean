/- Walk of may: which graphs may be. Conditions: the graph lies in memory. -/
import Derived.Test.YtiaecobjbckhoaaDbG0
import Derived.Laws.EntriesVeiled
set_option linter.unusedVariables false
set_option linter.unusedSimpArgs false
namespace Go.Proofs.Ytiaecobjbckhoaa.Db
open Go Go.RowKit
open Go.WideShapes Go.MapKept

def badN (n : Nat) (b : Int) : Bool := decide (b < 0) || decide ((n : Int) ≤ b)
def mayL (n : Nat) (T : List Tl) : Bool := decide (0 < n) && (decide (n ≤ 32768) && !(T.any fun x => x.l.any (badN n)))
def findI {α : Type} (f : α → Bool) (l : List α) : Int := match l.findIdx? f with
  | some k => k
  | none => -1
theorem findI_some {α : Type} {f : α → Bool} {l : List α} {k : Nat} {x : α} (hx : l[k]? = some x) (hb : f x = true) (ht : (l.take k).any f = false) : findI f l = k := by
  have : l.findIdx? f = some k := by
    rw [List.findIdx?_eq_some_iff_getElem]
    obtain ⟨hk, he⟩ := List.getElem?_eq_some_iff.1 hx
    refine ⟨hk, by rw [he]; exact hb, fun j hj => ?_⟩
    rw [List.any_eq_false] at ht
    have hm : l[j] ∈ l.take k := by
      rw [List.mem_take_iff_getElem]
      exact ⟨j, by omega, rfl⟩
    simpa using ht _ hm
  unfold findI
  rw [this]
theorem findI_none {α : Type} {f : α → Bool} {l : List α} (h : l.any f = false) : findI f l = -1 := by
  have : l.findIdx? f = none := by
    rw [List.findIdx?_eq_none_iff]
    intro x hx
    rw [List.any_eq_false] at h
    simpa using h x hx
  unfold findI
  rw [this]
theorem findI_ge {α : Type} (f : α → Bool) (l : List α) : decide (0 ≤ findI f l) = l.any f := by
  cases h : l.any f with
  | false => rw [findI_none h]; rfl
  | true =>
    unfold findI
    cases hf : l.findIdx? f with
    | some k => simp
    | none =>
      rw [List.findIdx?_eq_none_iff] at hf
      rw [List.any_eq_true] at h
      obtain ⟨x, hx, hb⟩ := h
      rw [hf x hx] at hb
      cases hb
theorem any_take {α : Type} {f : α → Bool} {l : List α} {k : Nat} {x : α} (h : l[k]? = some x) : (l.take (k + 1)).any f = ((l.take k).any f || f x) := by
  rw [List.take_add_one, h, List.any_append]
  simp
set_option maxHeartbeats 1000000 in
set_option maxRecDepth 100000 in
theorem isNone_c (pt n tcap : Nat) (ta : Option Addr) (b : Int) (W : World) (hn : n ≤ tcap ∧ tcap ≤ 9223372036854775807) (hc : W.cell? ⟨pt, 0, none⟩ = some (.slice ta n tcap)) :
    Calls Try.prog 30 #[.int .i64 b, .pointer (some ⟨pt, 0, none⟩)] W fun e w' => e = .returned (.bool (badN n b)) ∧ w' = W := by
  obtain ⟨h1, h2⟩ := hn
  unfold badN
  by_cases h0 : b < 0
  · have hd : decide (b < 0) = true := by simpa using h0
    go_enter Try.func30, Try.ntmps30
    go_wp2_with fail
    go_ret
    exact ⟨by simp [h0], rfl⟩
  · have hd : decide (b < 0) = false := by simpa using h0
    go_enter Try.func30, Try.ntmps30
    go_wp2_with fail
    go_ret
    exact ⟨by simp [h0], rfl⟩
set_option maxHeartbeats 2000000 in
set_option maxRecDepth 100000 in
theorem indexF_c (pt n tcap : Nat) (ta : Option Addr) (l : List Int) (a : Option Addr) (cap : Nat) (w : World) (hn : n ≤ tcap ∧ tcap ≤ 9223372036854775807) (hc : w.cell? ⟨pt, 0, none⟩ = some (.slice ta n tcap)) (S : Nat → Prop) (hrow : RowAt w S a cap l.length (numCells l)) :
    Calls Try.prog 39 #[.slice a l.length cap, .func (.func 30) #[] #[.pointer (some ⟨pt, 0, none⟩)]] w fun e w' => e = .returned (.int .i64 (findI (badN n) l)) ∧ w' = w := by
  obtain ⟨hc1, hc2⟩ := len_i hrow
  have hM := Lib.hid (fun b => isNone_c pt n tcap ta b w hn hc)
  clear hn hc
  go_enter Try.func39, Try.ntmps39
  go_wp2_with fail
  go_loopw [8] (fun i wr => ∃ k : Nat, k ≤ l.length ∧ i = .int .i64 k ∧ Hid ((l.take k).any (badN n) = false) ∧ wr = w) (fun i _ => l.length - (intOf i).toNat)
  case atStart => exact ⟨0, Nat.zero_le _, rfl, Lib.hid rfl, rfl⟩
  case round =>
    obtain ⟨k, hk, rfl, hall, rfl⟩ := hrel
    by_cases hlt : k < l.length
    · obtain ⟨x, hx⟩ : ∃ x, l[k]? = some x := ⟨_, List.getElem?_eq_getElem hlt⟩
      obtain ⟨b, off, ha, _, c0⟩ := numS_row hrow k x hx
      subst ha
      have hi0' : (0 : Int) ≤ (k : Int) := by omega
      have hi1 : (k : Int) < (l.length : Int) := by omega
      have hMx := Lib.hid (hM.out x)
      have hyes := Lib.hid (any_take (f := badN n) hx)
      have hno := Lib.hid (fun h : badN n x = true => findI_some hx h hall.out)
      clear hx hrow
      cases hbx : badN n x with
      | true =>
        have hn := Lib.hid (hno.out hbx)
        rw [hbx] at hMx
        clear hyes hno hall hbx
        go_wp2_with fail
        refine hMx.out.mono ?_
        rintro e w1 ⟨rfl, rfl⟩
        go_wp2_with fail
        go_ret
        exact ⟨by rw [hn.out]; rfl, rfl⟩
      | false =>
        have hn : Hid ((l.take (k + 1)).any (badN n) = false) := Lib.hid (by rw [hyes.out, hall.out, hbx]; rfl)
        rw [hbx] at hMx
        clear hyes hno hall hbx
        go_wp2_with fail
        refine hMx.out.mono ?_
        rintro e w1 ⟨rfl, rfl⟩
        go_wp2_with fail
        go_roundw
        case rel => exact ⟨k + 1, by omega, by go_num, hn, trivial⟩
        case measure => simp [intOf]; omega
    · have hk2 : k = l.length := by omega
      subst hk2
      rw [List.take_length] at hall
      go_wp2_with fail
      go_ret
      exact ⟨by rw [findI_none hall.out]; rfl, rfl⟩
set_option maxHeartbeats 1000000 in
set_option maxRecDepth 100000 in
theorem leaves_c (pt ps n tcap : Nat) (ta : Option Addr) (l : List Int) (a : Option Addr) (cap : Nat) (w : World) (hn : n ≤ tcap ∧ tcap ≤ 9223372036854775807) (hc : w.cell? ⟨pt, 0, none⟩ = some (.slice ta n tcap)) (hs : w.cell? ⟨ps, 0, none⟩ = some (.func (.func 30) #[] #[.pointer (some ⟨pt, 0, none⟩)])) (S : Nat → Prop) (hrow : RowAt w S a cap l.length (numCells l)) :
    Calls Try.prog 31 #[.slice a l.length cap, .pointer (some ⟨ps, 0, none⟩)] w fun e w' => e = .returned (.bool (l.any (badN n))) ∧ w' = w := by
  have hI := Lib.hid (indexF_c pt n tcap ta l a cap w hn hc S hrow)
  have hC : Hid (Calls Try.prog 32 #[.slice a l.length cap, .func (.func 30) #[] #[.pointer (some ⟨pt, 0, none⟩)]] w fun e w' => e = .returned (.bool (l.any (badN n))) ∧ w' = w) := by
    refine Lib.hid ?_
    rw [← findI_ge]
    clear hrow hc hs
    go_enter Try.func32, Try.ntmps32
    go_wp2_with fail
    refine hI.out.mono ?_
    rintro e w1 ⟨rfl, rfl⟩
    go_wp2_with fail
    go_ret
    exact ⟨by simp, rfl⟩
  clear hI hrow hc
  go_enter Try.func31, Try.ntmps31
  go_wp2_with fail
  refine hC.out.mono ?_
  rintro e w1 ⟨rfl, rfl⟩
  go_wp2_with fail
  go_ret
  exact ⟨rfl, rfl⟩
set_option maxHeartbeats 2000000 in
set_option maxRecDepth 100000 in
theorem indexT_c (B pt ps n tcap : Nat) (ta : Option Addr) (T : List Tl) (a : Option Addr) (cap : Nat) (w : World) (hn : n ≤ tcap ∧ tcap ≤ 9223372036854775807) (hc : w.cell? ⟨pt, 0, none⟩ = some (.slice ta n tcap)) (hs : w.cell? ⟨ps, 0, none⟩ = some (.func (.func 30) #[] #[.pointer (some ⟨pt, 0, none⟩)])) (hg : ToM B a cap T w) :
    Calls Try.prog 33 #[.slice a T.length cap, .func (.func 31) #[] #[.pointer (some ⟨ps, 0, none⟩)]] w fun e w' => e = .returned (.bool (T.any fun x => x.l.any (badN n))) ∧ w' = w := by
  obtain ⟨hc1, hc2⟩ := len_i hg.row
  have hM := Lib.hid (fun x (hx : x ∈ T) => leaves_c pt ps n tcap ta x.l x.a x.cap w hn hc hs _ (hg.rows x hx))
  have hI : Hid (Calls Try.prog 40 #[.slice a T.length cap, .func (.func 31) #[] #[.pointer (some ⟨ps, 0, none⟩)]] w fun e w' => e = .returned (.int .i64 (findI (fun x : Tl => x.l.any (badN n)) T)) ∧ w' = w) := by
    refine Lib.hid ?_
    clear hn hc hs
    generalize hf : (fun x : Tl => x.l.any (badN n)) = f
    have hM' := Lib.hid (fun x (hx : x ∈ T) => (hf ▸ hM.out x hx : Calls Try.prog 31 #[.slice x.a x.l.length x.cap, .pointer (some ⟨ps, 0, none⟩)] w fun e w' => e = .returned (.bool (f x)) ∧ w' = w))
    clear hM hf
    go_enter Try.func40, Try.ntmps40
    go_wp2_with fail
    go_loopw [8] (fun i wr => ∃ k : Nat, k ≤ T.length ∧ i = .int .i64 k ∧ Hid ((T.take k).any f = false) ∧ wr = w) (fun i _ => T.length - (intOf i).toNat)
    case atStart => exact ⟨0, Nat.zero_le _, rfl, Lib.hid rfl, rfl⟩
    case round =>
      obtain ⟨k, hk, rfl, hall, rfl⟩ := hrel
      by_cases hlt : k < T.length
      · obtain ⟨x, hx⟩ : ∃ x, T[k]? = some x := ⟨_, List.getElem?_eq_getElem hlt⟩
        obtain ⟨b, off, ha, _, c0⟩ := tl_row hg.row k x hx
        subst ha
        have hi0' : (0 : Int) ≤ (k : Int) := by omega
        have hi1 : (k : Int) < (T.length : Int) := by omega
        have hMx := Lib.hid (hM'.out x (List.mem_of_getElem? hx))
        have hyes := Lib.hid (any_take (f := f) hx)
        have hno := Lib.hid (fun h : f x = true => findI_some hx h hall.out)
        clear hx hg
        cases hbx : f x with
        | true =>
          have hn := Lib.hid (hno.out hbx)
          rw [hbx] at hMx
          clear hyes hno hall hbx
          go_wp2_with fail
          refine hMx.out.mono ?_
          rintro e w1 ⟨rfl, rfl⟩
          go_wp2_with fail
          go_ret
          exact ⟨by rw [hn.out]; rfl, rfl⟩
        | false =>
          have hn : Hid ((T.take (k + 1)).any f = false) := Lib.hid (by rw [hyes.out, hall.out, hbx]; rfl)
          rw [hbx] at hMx
          clear hyes hno hall hbx
          go_wp2_with fail
          refine hMx.out.mono ?_
          rintro e w1 ⟨rfl, rfl⟩
          go_wp2_with fail
          go_roundw
          case rel => exact ⟨k + 1, by omega, by go_num, hn, trivial⟩
          case measure => simp [intOf]; omega
      · have hk2 : k = T.length := by omega
        subst hk2
        rw [List.take_length] at hall
        go_wp2_with fail
        go_ret
        exact ⟨by rw [findI_none hall.out]; rfl, rfl⟩
  rw [← findI_ge]
  clear hg hn hc hs hM
  go_enter Try.func33, Try.ntmps33
  go_wp2_with fail
  refine hI.out.mono ?_
  rintro e w1 ⟨rfl, rfl⟩
  go_wp2_with fail
  go_ret
  exact ⟨by simp, rfl⟩
set_option maxHeartbeats 2000000 in
set_option maxRecDepth 100000 in
theorem may_c {T : List Tl} (n tcap : Nat) (ta : Option Addr) (w : World) (hT : T.length = n) (hg : ToM w.heap.size ta tcap T w) :
    Calls Try.prog 24 #[.slice ta n tcap] w fun e w' => e = .returned (.bool (mayL n T)) ∧ Below w.heap.size w w' := by
  obtain ⟨hc1, hc2⟩ := len_i hg.row
  rw [hT] at hc1
  have hb1 := b_alloc w (.cells #[.slice ta n tcap] 22)
  have k0 : (w.alloc (.cells #[.slice ta n tcap] 22)).cell? ⟨w.heap.size, 0, none⟩ = some (.slice ta n tcap) := blk_cell (blk_new w _ rfl) rfl
  have hz1 : (w.alloc (.cells #[.slice ta n tcap] 22)).heap.size = w.heap.size + 1 := by simp
  generalize hW1 : w.alloc (.cells #[.slice ta n tcap] 22) = W1 at *
  obtain ⟨fv, hfv⟩ : ∃ fv, fv = Value.func (.func 30) #[] #[.pointer (some ⟨w.heap.size, 0, none⟩)] := ⟨_, rfl⟩
  have hb2 := b_alloc W1 (.cells #[fv] 36)
  have k1 : (W1.alloc (.cells #[fv] 36)).cell? ⟨w.heap.size, 0, none⟩ = some (.slice ta n tcap) := (hb2.cell (p := ⟨_, _, none⟩) (by simp [hz1])).trans k0
  have k2 : (W1.alloc (.cells #[fv] 36)).cell? ⟨w.heap.size + 1, 0, none⟩ = some fv := blk_cell (blk_new W1 _ hz1) rfl
  have hbb := hb1.trans (hb2.mono (by omega))
  have hg2 := hg.keep hbb
  rw [hfv] at hb2 k1 k2 hbb hg2
  have hcall := Lib.hid (indexT_c w.heap.size w.heap.size (w.heap.size + 1) n tcap ta T ta tcap _ ⟨hc1, hc2⟩ k1 k2 hg2)
  rw [hT] at hcall
  unfold mayL
  by_cases h0 : 0 < n
  · by_cases h1 : n ≤ 32768
    · have hd0 : decide ((0 : Int) < (n : Int)) = true := by simpa using h0
      have hd1 : decide ((n : Int) ≤ 32768) = true := by simp; omega
      replace hbb := Lib.hid hbb
      clear hg hg2 hb1 hb2 k0 hT
      subst hW1
      clear hfv fv
      go_enter Try.func24, Try.ntmps24
      go_wp2_with fail
      refine hcall.out.mono ?_
      rintro e w1 ⟨rfl, rfl⟩
      go_wp2_with fail
      go_ret
      exact ⟨by simp [h0, h1], hbb.out⟩
    · have hd0 : decide ((0 : Int) < (n : Int)) = true := by simpa using h0
      have hd1 : decide ((n : Int) ≤ 32768) = false := by simp; omega
      replace hbb := Lib.hid hbb
      clear hg hg2 hb1 hb2 k0 hT hcall
      subst hW1
      clear hfv fv
      go_enter Try.func24, Try.ntmps24
      go_wp2_with fail
      go_ret
      exact ⟨by simp [h1], hbb.out⟩
  · have hd0 : decide ((0 : Int) < (n : Int)) = false := by simp; omega
    replace hbb := Lib.hid hbb
    clear hg hg2 hb1 hb2 k0 hT hcall
    subst hW1
    clear hfv fv
    go_enter Try.func24, Try.ntmps24
    go_wp2_with fail
    go_ret
    exact ⟨by simp [h0], hbb.out⟩
end Go.Proofs.Ytiaecobjbckhoaa.Db
