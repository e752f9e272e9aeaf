/- Rows of numbers and of globals in memory; what slices.Equal, IndexFunc, ContainsFunc answer. Conditions: what is asked about lies in memory. -/
import Derived.Test.YtnoilcchegmpfaaMeG
import Derived.Deep.QuietTactic
namespace Go.Proofs.Ytnoilcchegmpfaa.Me
open Go Go.RowKit

/-- the cells of some blocks read on as they read -/
def Kps (S : Nat → Prop) (A B : World) : Prop := ∀ b o v, S b → A.cell? ⟨b, o, none⟩ = some v → B.cell? ⟨b, o, none⟩ = some v
theorem Kps.refl (S : Nat → Prop) (A : World) : Kps S A A := fun _ _ _ _ h => h
theorem Kps.trans {S : Nat → Prop} {A B C : World} (h : Kps S A B) (k : Kps S B C) : Kps S A C := fun b o v hs hc => k b o v hs (h b o v hs hc)
theorem Kps.of_below {S : Nat → Prop} {A B : World} (h : Below A.heap.size A B) : Kps S A B := fun b o _ _ hc => (h.cell (p := ⟨b, o, none⟩) (World.block_lt_of_cell? _ _ hc)).trans hc
theorem Kps.mono {S S' : Nat → Prop} {A B : World} (h : Kps S A B) (hs : ∀ b, S' b → S b) : Kps S' A B := fun b o v hb hc => h b o v (hs b hb) hc
theorem Kps.alloc {S : Nat → Prop} (A : World) (o : Obj) : Kps S A (A.alloc o) := Kps.of_below ((Below.refl _ _).alloc (Nat.le_refl _) _)

/-- a list's cells lie from its address on, in a block of S -/
structure RowAt (w : World) (S : Nat → Prop) (a : Option Addr) (cap n : Nat) (xs : List Value) : Prop where
  le : n ≤ cap
  lim : cap ≤ maxLen
  nil : a = none → cap = 0
  at_ : ∀ j u, xs[j]? = some u → ∃ b off, a = some ⟨b, off, none⟩ ∧ S b ∧ w.cell? ⟨b, off + j, none⟩ = some u

theorem RowAt.below {w w' : World} {S : Nat → Prop} {a : Option Addr} {cap n : Nat} {xs : List Value} (h : RowAt w S a cap n xs) (hb : Kps S w w') : RowAt w' S a cap n xs :=
  ⟨h.le, h.lim, h.nil, fun j u hj => by
    obtain ⟨b, off, ha, hB, hc⟩ := h.at_ j u hj
    exact ⟨b, off, ha, hB, hb _ _ _ hB hc⟩⟩
theorem RowAt.mono {w : World} {S S' : Nat → Prop} {a : Option Addr} {cap n : Nat} {xs : List Value} (h : RowAt w S a cap n xs) (hb : ∀ b, S b → S' b) : RowAt w S' a cap n xs :=
  ⟨h.le, h.lim, h.nil, fun j u hj => by
    obtain ⟨b, off, ha, hB, hc⟩ := h.at_ j u hj
    exact ⟨b, off, ha, hb _ hB, hc⟩⟩

theorem flat_at {α : Type} (f : α → List Value) (c : Nat) (hc : ∀ x, (f x).length = c) : ∀ (l : List α) (i j : Nat) (x : α), l[i]? = some x → j < c → (l.flatMap f)[i * c + j]? = (f x)[j]?
  | [], i, j, x, h, _ => by simp at h
  | y :: r, 0, j, x, h, hj => by
    simp at h; subst h
    rw [List.flatMap_cons, Nat.zero_mul, Nat.zero_add, List.getElem?_append_left (by rw [hc]; exact hj)]
  | y :: r, i + 1, j, x, h, hj => by
    rw [List.flatMap_cons, List.getElem?_append_right (by rw [hc, Nat.succ_mul]; omega), hc]
    have e : (i + 1) * c + j - c = i * c + j := by rw [Nat.succ_mul]; omega
    rw [e]
    exact flat_at f c hc r i j x (by simpa using h) hj
theorem row_get {α : Type} (f : α → List Value) (c : Nat) (hc : ∀ x, (f x).length = c) (hc0 : 0 < c) {w : World} {S : Nat → Prop} {a : Option Addr} {cap : Nat} {l : List α} (h : RowAt w S a cap l.length (l.flatMap f)) (i : Nat) (e : α) (he : l[i]? = some e) :
    ∃ b off, a = some ⟨b, off, none⟩ ∧ S b ∧ ∀ j u, (f e)[j]? = some u → w.cell? ⟨b, off + (i * c + j), none⟩ = some u := by
  have key : ∀ j u, (f e)[j]? = some u → (l.flatMap f)[i * c + j]? = some u := by
    intro j u hu
    have hj : j < c := by have := (List.getElem?_eq_some_iff.1 hu).1; rw [hc] at this; exact this
    rw [flat_at f c hc l i j e he hj]; exact hu
  obtain ⟨u, hu⟩ : ∃ u, (f e)[0]? = some u := ⟨_, List.getElem?_eq_getElem (by rw [hc]; exact hc0)⟩
  obtain ⟨b, off, ha, hb, _⟩ := h.at_ _ _ (key 0 u hu)
  refine ⟨b, off, ha, hb, fun j v hv => ?_⟩
  obtain ⟨b', off', ha', _, hc⟩ := h.at_ _ _ (key j v hv)
  rw [ha] at ha'
  cases ha'
  exact hc
theorem len_i {w : World} {S : Nat → Prop} {a : Option Addr} {cap n : Nat} {xs : List Value} (h : RowAt w S a cap n xs) : n ≤ cap ∧ cap ≤ 9223372036854775807 := ⟨h.le, by have := h.lim; unfold maxLen at this; omega⟩
theorem ret_bool {a b : Bool} (h : a = b) : Ending.returned (.bool a) = .returned (.bool b) := by rw [h]
def numCells (l : List Int) : List Value := l.map (Value.int .i64)
/-- a global -/
structure Gm where
  name : ByteArray
  size : Int
  first : Int
def Gm.vals (m : Gm) : List Value := [.string m.name, .int .i64 m.size, .int .i64 m.first]
theorem Gm.vals_len (m : Gm) : m.vals.length = 3 := rfl
def gmCells (l : List Gm) : List Value := l.flatMap Gm.vals
structure Gm.In (m : Gm) : Prop where
  name : m.name.size ≤ maxLen
  size : I64 m.size
  first : I64 m.first
theorem gm_row {w : World} {S : Nat → Prop} {a : Option Addr} {cap : Nat} {l : List Gm} (h : RowAt w S a cap l.length (gmCells l)) (i : Nat) (e : Gm) (he : l[i]? = some e) :
    ∃ b off, a = some ⟨b, off, none⟩ ∧ S b ∧ w.cell? ⟨b, off + i * 3, none⟩ = some (.string e.name) ∧ w.cell? ⟨b, off + i * 3 + 1, none⟩ = some (.int .i64 e.size) ∧ w.cell? ⟨b, off + i * 3 + 2, none⟩ = some (.int .i64 e.first) := by
  obtain ⟨b, off, ha, hb, hcl⟩ := row_get Gm.vals 3 Gm.vals_len (by omega) h i e he
  refine ⟨b, off, ha, hb, ?_, ?_, ?_⟩
  · have := hcl 0 _ rfl; rwa [Nat.add_zero] at this
  · have := hcl 1 _ rfl; rwa [← Nat.add_assoc] at this
  · have := hcl 2 _ rfl; rwa [← Nat.add_assoc] at this
/-- may a global not be? -/
def badG (m : Gm) : Bool := decide (m.size < 1) || decide (1024 < m.size)
theorem b_alloc (w : World) (o : Obj) : Below w.heap.size w (w.alloc o) := (Below.refl _ _).alloc (Nat.le_refl _) _
theorem mayNot_c (g : Gm) (w : World) : Calls Try.prog 20 #[.agg ⟨g.vals⟩] w fun e w' => e = .returned (.bool (badG g)) ∧ Below w.heap.size w w' := by
  obtain ⟨nm, sz, fi⟩ := g
  unfold badG
  have hb := Lib.hid (b_alloc w (.cells #[.string nm, .int .i64 sz, .int .i64 fi] 41))
  show Calls Try.prog 20 #[.agg #[.string nm, .int .i64 sz, .int .i64 fi]] w _
  by_cases h1 : sz < 1
  · go_enter Try.func20, Try.ntmps20
    go_wp2_with fail
    go_ret
    exact ⟨by simp [h1], hb.out⟩
  · by_cases h2 : 1024 < sz
    · go_enter Try.func20, Try.ntmps20
      go_wp2_with fail
      go_ret
      exact ⟨by first | (simp; done) | (simp; omega), hb.out⟩
    · go_enter Try.func20, Try.ntmps20
      go_wp2_with fail
      go_ret
      exact ⟨by first | (simp; done) | (simp; omega), hb.out⟩
def findI (l : List Gm) : Int := match l.findIdx? badG with
  | some k => k
  | none => -1
theorem findI_some {l : List Gm} {k : Nat} {x : Gm} (hx : l[k]? = some x) (hb : badG x = true) (ht : (l.take k).any badG = false) : findI l = k := by
  have : l.findIdx? badG = some k := by
    rw [List.findIdx?_eq_some_iff_getElem]
    obtain ⟨hk, he⟩ := List.getElem?_eq_some_iff.1 hx
    refine ⟨hk, by rw [he]; exact hb, fun j hj => ?_⟩
    rw [List.any_eq_false] at ht
    have hm : l[j] ∈ l.take k := by
      rw [List.mem_take_iff_getElem]
      exact ⟨j, by omega, rfl⟩
    simpa using ht _ hm
  unfold findI
  rw [this]
theorem findI_none {l : List Gm} (h : l.any badG = false) : findI l = -1 := by
  have : l.findIdx? badG = none := by
    rw [List.findIdx?_eq_none_iff]
    intro x hx
    rw [List.any_eq_false] at h
    simpa using h x hx
  unfold findI
  rw [this]
theorem findI_ge (l : List Gm) : decide (0 ≤ findI l) = l.any badG := by
  cases h : l.any badG with
  | false => rw [findI_none h]; rfl
  | true =>
    unfold findI
    cases hf : l.findIdx? badG with
    | some k => simp
    | none =>
      rw [List.findIdx?_eq_none_iff] at hf
      rw [List.any_eq_true] at h
      obtain ⟨x, hx, hb⟩ := h
      rw [hf x hx] at hb
      cases hb
theorem any_take {α : Type} {f : α → Bool} {l : List α} {k : Nat} {x : α} (h : l[k]? = some x) : (l.take (k + 1)).any f = ((l.take k).any f || f x) := by
  rw [List.take_add_one, h, List.any_append]
  simp
set_option maxHeartbeats 2000000 in
set_option maxRecDepth 100000 in
theorem indexFunc_c (l : List Gm) (a : Option Addr) (cap : Nat) (w : World) (hrow : RowAt w (fun _ => True) a cap l.length (gmCells l)) :
    Calls Try.prog 37 #[.slice a l.length cap, .func (.func 20) #[] #[]] w fun e w' => e = .returned (.int .i64 (findI l)) ∧ Below w.heap.size w w' := by
  obtain ⟨hc1, hc2⟩ := len_i hrow
  have hM := Lib.hid (fun g V => mayNot_c g V)
  go_enter Try.func37, Try.ntmps37
  go_wp2_with fail
  go_loopw [8] (fun i wr => ∃ k : Nat, k ≤ l.length ∧ i = .int .i64 k ∧ Hid ((l.take k).any badG = false) ∧ Hid (Below w.heap.size w wr)) (fun i _ => l.length - (intOf i).toNat)
  case atStart => exact ⟨0, Nat.zero_le _, rfl, Lib.hid rfl, Lib.hid (Below.refl _ _)⟩
  case round =>
    obtain ⟨k, hk, rfl, hall, hb⟩ := hrel
    by_cases hlt : k < l.length
    · obtain ⟨x, hx⟩ : ∃ x, l[k]? = some x := ⟨_, List.getElem?_eq_getElem hlt⟩
      obtain ⟨b, off, ha, _, c0, c1, c2⟩ := gm_row (hrow.below (Kps.of_below hb.out)) k x hx
      subst ha
      have hi0' : (0 : Int) ≤ (k : Int) := by omega
      have hi1 : (k : Int) < (l.length : Int) := by omega
      have hMx := Lib.hid (fun V : World => hM.out x V)
      have hyes := Lib.hid (any_take (f := badG) hx)
      have hno := Lib.hid (fun h : badG x = true => findI_some hx h hall.out)
      clear hx hrow
      cases hbx : badG x with
      | true =>
        have hn := Lib.hid (hno.out hbx)
        rw [hbx] at hMx
        obtain ⟨nm, sz, fi⟩ := x
        simp only [Gm.vals] at hMx c0 c1 c2
        clear hyes hno hall hbx
        go_wp2_with (go_at_call 20; refine (hMx.out _).mono ?_; rintro e w1 ⟨rfl, hb1⟩)
        go_ret
        exact ⟨by rw [hn.out]; rfl, hb.out.trans (hb1.mono hb.out.size)⟩
      | false =>
        have hn : Hid ((l.take (k + 1)).any badG = false) := Lib.hid (by rw [hyes.out, hall.out, hbx]; rfl)
        rw [hbx] at hMx
        obtain ⟨nm, sz, fi⟩ := x
        simp only [Gm.vals] at hMx c0 c1 c2
        clear hyes hno hall hbx
        go_wp2_with (go_at_call 20; refine (hMx.out _).mono ?_; rintro e w1 ⟨rfl, hb1⟩)
        go_roundw
        case rel => exact ⟨k + 1, by omega, by go_num, hn, Lib.hid (hb.out.trans (hb1.mono hb.out.size))⟩
        case measure => simp [intOf]; omega
    · have hk2 : k = l.length := by omega
      subst hk2
      rw [List.take_length] at hall
      go_wp2_with fail
      go_ret
      exact ⟨by rw [findI_none hall.out]; rfl, hb.out⟩
theorem containsFunc_c (l : List Gm) (a : Option Addr) (cap : Nat) (w : World) (hrow : RowAt w (fun _ => True) a cap l.length (gmCells l)) :
    Calls Try.prog 19 #[.slice a l.length cap, .func (.func 20) #[] #[]] w fun e w' => e = .returned (.bool (l.any badG)) ∧ Below w.heap.size w w' := by
  have hI := Lib.hid (indexFunc_c l a cap w hrow)
  rw [← findI_ge]
  clear hrow
  go_enter Try.func19, Try.ntmps19
  go_wp2_with (go_at_call 37; refine hI.out.mono ?_; rintro e w1 ⟨rfl, hb1⟩)
  go_ret
  exact ⟨by simp, hb1⟩
set_option maxHeartbeats 800000 in
set_option maxRecDepth 100000 in
theorem equalI_any (l l' : List Int) (a a' : Option Addr) (cap cap' : Nat) (w : World) (hrow : RowAt w (fun _ => True) a cap l.length (numCells l)) (hrow' : RowAt w (fun _ => True) a' cap' l'.length (numCells l')) :
    Calls Try.prog 30 #[.slice a l.length cap, .slice a' l'.length cap'] w fun x w' => x = .returned (.bool (decide (l = l'))) ∧ Below w.heap.size w w' := by
  obtain ⟨hc11, hc12⟩ := len_i hrow
  obtain ⟨hc21, hc22⟩ := len_i hrow'
  by_cases hle : l.length = l'.length
  · have hne : ((l.length : Int) != (l'.length : Int)) = false := by rw [hle]; simp
    have hle' := Lib.hid hle
    go_enter Try.func30, Try.ntmps30
    clear hle
    go_wp2
    go_loopw [13] (fun i wr => ∃ k : Nat, k ≤ l.length ∧ i = .int .i64 k ∧ l.take k = l'.take k ∧ ∃ m, wr = w.drewN m) (fun i _ => l.length - (intOf i).toNat)
    case atStart => exact ⟨0, Nat.zero_le _, rfl, rfl, 0, rfl⟩
    case round =>
      obtain ⟨k, hk, rfl, htk, m, rfl⟩ := hrel
      replace htk := Lib.hid htk
      by_cases hlt : k < l.length
      · have hlt' : k < l'.length := by rw [← hle'.out]; exact hlt
        obtain ⟨x, hx⟩ : ∃ e, l[k]? = some e := ⟨l[k], by simp [hlt]⟩
        obtain ⟨y, hy⟩ : ∃ e, l'[k]? = some e := ⟨l'[k], by simp [hlt']⟩
        obtain ⟨b, off, rfl, _, hcell⟩ := hrow.at_ k (.int .i64 x) (by unfold numCells; rw [List.getElem?_map, hx]; rfl)
        obtain ⟨b', off', rfl, _, hcell'⟩ := hrow'.at_ k (.int .i64 y) (by unfold numCells; rw [List.getElem?_map, hy]; rfl)
        replace hx := Lib.hid hx
        replace hy := Lib.hid hy
        have hkl' : k < l'.length := hlt'
        by_cases hxy : x = y
        · have HT : Hid (l.take (k + 1) = l'.take (k + 1)) := Lib.hid (by rw [List.take_add_one, List.take_add_one, htk.out, hx.out, hy.out, hxy])
          subst hxy
          go_wp2
          go_quiet (fail)
          go_wp2
          go_roundw
          case rel => exact ⟨k + 1, by omega, by go_num, HT.out, _, rfl⟩
          case measure => simp [intOf]; omega
        · have HN : Hid (decide (l = l') = false) := Lib.hid (by
            rw [decide_eq_false_iff_not]; intro e; apply hxy
            have h3 := hx.out; rw [e, hy.out] at h3
            exact (Option.some.inj h3).symm)
          have hs1 : (x == y) = false := by simpa using hxy
          have hs2 : (x != y) = true := by simpa using hxy
          clear hxy
          go_wp2
          go_quiet (fail)
          go_wp2
          go_ret
          exact ⟨ret_bool HN.out.symm, ⟨rfl, rfl, rfl, Nat.le_refl _, fun _ _ => rfl⟩⟩
      · have HE : Hid (decide (l = l') = true) := Lib.hid (by
          have h3 := htk.out
          have h4 := hle'.out
          rw [List.take_of_length_le (by omega), List.take_of_length_le (by omega)] at h3
          simpa using h3)
        clear htk
        go_wp2
        go_ret
        exact ⟨ret_bool HE.out.symm, ⟨rfl, rfl, rfl, Nat.le_refl _, fun _ _ => rfl⟩⟩
  · have hne : ((l.length : Int) != (l'.length : Int)) = true := by simp; omega
    have hF : Hid (decide (l = l') = false) := Lib.hid (by rw [decide_eq_false_iff_not]; intro h; exact hle (by rw [h]))
    go_enter Try.func30, Try.ntmps30
    go_wp2
    go_ret
    exact ⟨ret_bool hF.out.symm, Below.refl _ _⟩
end Go.Proofs.Ytnoilcchegmpfaa.Me
