/- What maps.Clone and maps.Equal answer, of maps of numbers to numbers. Conditions: the maps lie in the world. -/
import Derived.Test.YtnoilcchegmpfaaMeO0
import Derived.Shelf.SlMaps.Clone
import Derived.Shelf.SlMaps.Equal
namespace Go.Proofs.Ytnoilcchegmpfaa.Me
open Go Go.RowKit Go.Shelf

def cloneRen : Ren := ⟨fun | 5 => 22 | 7 => 39 | n => n, fun | 4 => 4 | 20 => 20 | 23 => 55 | 25 => 3 | 3 => 3 | n => n, fun n => n⟩
theorem cloneLays : Go.Proofs.SlLaysW.n5 Try.prog cloneRen := {
  mixed := by kernel_rfl
  f5 := ⟨"maps.Clone[map[int]int,int,int]", by decide, Try.func22.trans (congrArg some (by kernel_rfl))⟩
  f7 := Try.func39.trans (congrArg some (by kernel_rfl))
  t4 := Try.underlying4
  a4 := Try.isAgg4
  z4 := Try.sizeOf4
  v4 := Try.zeroValue4
  t20 := Try.underlying20
  a20 := Try.isAgg20
  z20 := Try.sizeOf20
  v20 := Try.zeroValue20
  t23 := Try.underlying55
  a23 := Try.isAgg55
  z23 := Try.sizeOf55
  v23 := Try.zeroValue55 }
def eqRen : Ren := ⟨fun | 6 => 31 | n => n, fun | 0 => 0 | 3 => 3 | 4 => 4 | 23 => 55 | 24 => 55 | 26 => 3 | 27 => 3 | 36 => 46 | n => n, fun n => n⟩
theorem eqLays : Go.Proofs.SlLaysEq.n6 Try.prog eqRen := {
  mixed := by kernel_rfl
  f6 := ⟨"maps.Equal[map[int]int,map[int]int,int,int]", by decide, Try.func31.trans (congrArg some (by kernel_rfl))⟩
  t0 := Try.underlying0
  a0 := Try.isAgg0
  z0 := Try.sizeOf0
  v0 := Try.zeroValue0
  t3 := Try.underlying3
  a3 := Try.isAgg3
  z3 := Try.sizeOf3
  v3 := Try.zeroValue3
  t4 := Try.underlying4
  a4 := Try.isAgg4
  z4 := Try.sizeOf4
  v4 := Try.zeroValue4
  t23 := Try.underlying55
  a23 := Try.isAgg55
  z23 := Try.sizeOf55
  v23 := Try.zeroValue55
  t24 := Try.underlying55
  a24 := Try.isAgg55
  z24 := Try.sizeOf55
  v24 := Try.zeroValue55
  a26 := Try.isAgg3
  z26 := Try.sizeOf3
  a27 := Try.isAgg3
  z27 := Try.sizeOf3
  t36 := Try.underlying46
  a36 := Try.isAgg46
  z36 := Try.sizeOf46 }
theorem mapClone_c {w : World} {b n : Nat} {h : Int → Option Int} (H : Hd w b n h) : Calls Try.prog 22 #[.map (some b)] w fun e w' => e = .returned (.map (some w.heap.size)) ∧ Hd w' w.heap.size n h ∧ Below w.heap.size w w' ∧ w'.heap.size = w.heap.size + 1 := by
  obtain ⟨D, ⟨es, clock, h1, h2, h3, h4⟩, hh⟩ := H
  refine (AnyW.maps_Clone cloneLays b es clock w h1).mono ?_
  rintro e w' ⟨rfl, rfl⟩
  exact ⟨rfl, ⟨D, ⟨es, clock, (MapKept.heap_alloc w _).1, h2, h3, h4⟩, hh⟩, b_alloc _ _, by simp⟩
def eqI (x y : DataW Unit) : Bool := decide (litOf x = litOf y)
abbrev en (p : Int × Int) : Lit × DataW Unit := (kl p.1, .lit (.int .i64 p.2))
def enL (L : List (Int × Int)) : DataW Unit := .map (L.map en)
theorem same_kl (i j : Int) : (kl i).sameKey (kl j) = (i == j) := by
  show decide (IntKind.i64 = IntKind.i64 ∧ i = j) = (i == j)
  rw [Bool.eq_iff_iff]
  simp
theorem find_en (i : Int) : ∀ L : List (Int × Int), (L.map en).find? (fun p => p.1.sameKey (kl i)) = (L.find? fun p => p.1 == i).map en
  | [] => rfl
  | p :: L => by
    rw [List.map_cons, List.find?_cons, List.find?_cons]
    show (match (kl p.1).sameKey (kl i) with | true => _ | false => _) = _
    rw [same_kl]
    cases p.1 == i
    · exact find_en i L
    · rfl
theorem has_en (i : Int) (L : List (Int × Int)) : Maps.has (enL L) (kl i) = (L.find? fun p => p.1 == i).isSome := by
  have h := find_en i L
  show (L.map en).any (fun p => p.1.sameKey (kl i)) = _
  cases hf : L.find? (fun p => p.1 == i) with
  | none =>
    rw [hf] at h
    rw [List.find?_eq_none.1 |> fun q => List.any_eq_false.2 (q h)]
    rfl
  | some p =>
    rw [hf] at h
    have h2 : (L.map en).find? (fun q => q.1.sameKey (kl i)) = some (en p) := h
    exact List.any_eq_true.2 ⟨en p, List.mem_of_find?_eq_some h2, List.find?_some (p := fun q : Lit × DataW Unit => q.1.sameKey (kl i)) h2⟩
theorem atKey_en (i : Int) (L : List (Int × Int)) (z : DataW Unit) : (enL L).atKey (kl i) z = ((L.find? fun p => p.1 == i).map fun p => (en p).2).getD z := by
  simp only [DataW.atKey, enL]
  rw [find_en]
  cases L.find? (fun p => p.1 == i) <;> rfl
theorem hld_en (i : Int) (L : List (Int × Int)) : hld (enL L) i = (L.find? fun p => p.1 == i).map Prod.snd := by
  unfold hld
  rw [has_en, atKey_en]
  cases L.find? (fun p => p.1 == i) <;> rfl
theorem ents {w : World} {b n : Nat} {D : DataW Unit} (hD : w.ownsMap Try.prog 3 (plainElem Try.prog 3) b n D) : ∃ L : List (Int × Int), D = enL L ∧ (L.map Prod.fst).Nodup := by
  obtain ⟨es1, he, hap, _⟩ := hD.entries key_law
  obtain ⟨es, clock, _, F, _, hD2⟩ := hD
  have hall : ∀ p ∈ es1, ∃ q : Int × Int, p = en q := by
    intro p hp
    have e : es1 = (es.toList.map (WideElems.rg Try.prog 3 (plainElem Try.prog 3))).foldr DataW.insert [] := by
      rw [he] at hD2
      injection hD2
    rw [e] at hp
    obtain ⟨x, hx, rfl⟩ := List.mem_map.1 ((WideShapes.sorted_perm _).mem_iff.1 hp)
    obtain ⟨y, hy⟩ := F.reads x hx
    rw [WideElems.rg_of hy]
    have hk := WideElems.rd_key hy
    obtain ⟨z, hz, hz2⟩ := WideElems.rd_val hy
    obtain ⟨c, _, rfl, _⟩ := plainElem_int_inv und_int hz
    have : ∃ i, y.1 = kl i := by
      cases hxk : x.key <;> simp [keyOf, hxk, mapKey] at hk
      exact ⟨_, hk.2.symm⟩
    obtain ⟨i, hi⟩ := this
    exact ⟨(i, c), Prod.ext hi hz2⟩
  have key : ∀ l : List (Lit × DataW Unit), (∀ p ∈ l, ∃ q : Int × Int, p = en q) → ∃ L : List (Int × Int), l = L.map en := by
    intro l
    induction l with
    | nil => exact fun _ => ⟨[], rfl⟩
    | cons p l ih =>
      intro h
      obtain ⟨q, hq⟩ := h p (by simp)
      obtain ⟨L, hL⟩ := ih fun x hx => h x (by simp [hx])
      exact ⟨q :: L, by rw [List.map_cons, hq, hL]⟩
  obtain ⟨L, rfl⟩ := key es1 hall
  refine ⟨L, he, ?_⟩
  rw [List.nodup_iff_pairwise_ne, List.pairwise_map]
  rw [List.pairwise_map] at hap
  exact hap.imp fun {a b} hne e => hne (by show kl a.1 = kl b.1; rw [e])
theorem find_own {L : List (Int × Int)} (hn : (L.map Prod.fst).Nodup) {p : Int × Int} (hp : p ∈ L) : L.find? (fun q => q.1 == p.1) = some p := by
  induction L with
  | nil => cases hp
  | cons q L ih =>
    rw [List.map_cons, List.nodup_cons] at hn
    rw [List.find?_cons]
    rcases List.mem_cons.1 hp with rfl | hp
    · simp
    · have : (q.1 == p.1) = false := by
        simp only [beq_eq_false_iff_ne, ne_eq]
        exact fun e => hn.1 (List.mem_map.2 ⟨p, hp, e.symm⟩)
      rw [this]
      exact ih hn.2 hp
theorem nodup_le : ∀ {l m : List Int}, l.Nodup → (∀ x ∈ l, x ∈ m) → l.length ≤ m.length
  | [], m, _, _ => Nat.zero_le _
  | a :: l, m, hn, hs => by
    rw [List.nodup_cons] at hn
    have ha : a ∈ m := hs a (by simp)
    have := nodup_le (l := l) (m := m.erase a) hn.2 fun x hx => by
      rw [List.mem_erase_of_ne (fun e => hn.1 (by rw [← e]; exact hx))]
      exact hs x (by simp [hx])
    rw [List.length_erase_of_mem ha] at this
    have h1 : 0 < m.length := List.length_pos_of_mem ha
    simp only [List.length_cons]
    omega
theorem equal_iff {L L' : List (Int × Int)} (hn : (L.map Prod.fst).Nodup) (hn' : (L'.map Prod.fst).Nodup) : Lib.equalFuncD eqI (enL L) (enL L') = true ↔ ∀ i, hld (enL L) i = hld (enL L') i := by
  have hgood : ∀ p ∈ L, Lib.goodD eqI (enL L') (en p) = true ↔ hld (enL L') p.1 = some p.2 := by
    intro p hp
    have e : Lib.goodD eqI (enL L') (en p) = (Maps.has (enL L') (kl p.1) && eqI (.lit (.int .i64 p.2)) ((enL L').atKey (kl p.1) .nil)) := rfl
    rw [e, hld_en, has_en, atKey_en]
    cases L'.find? (fun q => q.1 == p.1) with
    | none => simp
    | some q =>
      show (true && decide (p.2 = q.2)) = true ↔ some q.2 = some p.2
      simp
      exact eq_comm
  have hdef : Lib.equalFuncD eqI (enL L) (enL L') = (decide (L.length = L'.length) && (L.map en).all (Lib.goodD eqI (enL L'))) := by
    unfold Lib.equalFuncD enL
    simp [Maps.size, Lib.entriesD]
  rw [hdef, Bool.and_eq_true, decide_eq_true_iff, List.all_eq_true]
  constructor
  · rintro ⟨hl, ha⟩ i
    have hin : ∀ p ∈ L, hld (enL L') p.1 = some p.2 := fun p hp => (hgood p hp).1 (ha _ (List.mem_map.2 ⟨p, hp, rfl⟩))
    cases hi : L.find? (fun q => q.1 == i) with
    | some p =>
      have hp := List.mem_of_find?_eq_some hi
      have e : p.1 = i := by simpa using List.find?_some hi
      have := hin p hp
      rw [e] at this
      rw [hld_en, hi, this]
      rfl
    | none =>
      rw [hld_en, hi]
      cases hi' : L'.find? (fun q => q.1 == i) with
      | none => rw [hld_en, hi']
      | some p' =>
        exfalso
        have hp' := List.mem_of_find?_eq_some hi'
        have e : p'.1 = i := by simpa using List.find?_some hi'
        have hni : i ∉ L.map Prod.fst := fun hm => by
          obtain ⟨q, hq, hqe⟩ := List.mem_map.1 hm
          have := List.find?_eq_none.1 hi q hq
          simp [hqe] at this
        have hle := nodup_le (l := i :: L.map Prod.fst) (m := L'.map Prod.fst) (List.nodup_cons.2 ⟨hni, hn⟩) fun x hx => by
          rcases List.mem_cons.1 hx with rfl | hx
          · exact List.mem_map.2 ⟨p', hp', e⟩
          · obtain ⟨q, hq, rfl⟩ := List.mem_map.1 hx
            have := hin q hq
            rw [hld_en] at this
            obtain ⟨r, hr, _⟩ := Option.map_eq_some_iff.1 this
            exact List.mem_map.2 ⟨r, List.mem_of_find?_eq_some hr, by simpa using List.find?_some hr⟩
        simp at hle
        omega
  · intro h
    have hin : ∀ (A B : List (Int × Int)), (A.map Prod.fst).Nodup → (∀ i, hld (enL A) i = hld (enL B) i) → ∀ p ∈ A, ∃ q ∈ B, q.1 = p.1 ∧ hld (enL B) p.1 = some p.2 := by
      intro A B hA hh p hp
      have h1 := hh p.1
      rw [hld_en, find_own hA hp] at h1
      have h2 : hld (enL B) p.1 = some p.2 := h1.symm
      rw [hld_en] at h2
      obtain ⟨r, hr, _⟩ := Option.map_eq_some_iff.1 h2
      exact ⟨r, List.mem_of_find?_eq_some hr, by simpa using List.find?_some hr, h1.symm⟩
    have sub : ∀ (A B : List (Int × Int)), (A.map Prod.fst).Nodup → (∀ i, hld (enL A) i = hld (enL B) i) → A.length ≤ B.length := by
      intro A B hA hh
      have := nodup_le (l := A.map Prod.fst) (m := B.map Prod.fst) hA fun x hx => by
        obtain ⟨p, hp, rfl⟩ := List.mem_map.1 hx
        obtain ⟨q, hq, e, _⟩ := hin A B hA hh p hp
        exact List.mem_map.2 ⟨q, hq, e⟩
      simpa using this
    refine ⟨Nat.le_antisymm (sub L L' hn h) (sub L' L hn' fun i => (h i).symm), fun x hx => ?_⟩
    obtain ⟨p, hp, rfl⟩ := List.mem_map.1 hx
    obtain ⟨_, _, _, h2⟩ := hin L L' hn h p hp
    exact (hgood p hp).2 h2
/-- do two say the same of every lock? -/
theorem mapEqual_c {w : World} {b b' n n' : Nat} {h h' : Int → Option Int} (H : Hd w b n h) (H' : Hd w b' n' h') : Calls Try.prog 31 #[.map (some b), .map (some b')] w fun e w' => (∃ r, e = .returned (.bool r) ∧ (r = true ↔ ∀ i, h i = h' i)) ∧ Below w.heap.size w w' := by
  obtain ⟨D, hD, hh⟩ := H
  obtain ⟨D', hD', hh'⟩ := H'
  refine (AnyEq.maps_Equal eqLays key_law (plainElem Try.prog 3) (plainElem Try.prog 3) eqI b b' n n' D D' w hD hD' (.int .i64 0) zero_int (.lit (.int .i64 0)) [] (plainElem_int und_int (by decide)) ?_).mono ?_
  · intro W x y xd yd xp yp hx hy
    obtain ⟨c, rfl, hc, _⟩ := plainElem_int_inv und_int hx
    obtain ⟨d, rfl, hd, _⟩ := plainElem_int_inv und_int hy
    cases hc
    cases hd
    constructor
    · have : eqI (.lit (.int .i64 c)) (.lit (.int .i64 d)) = (c == d) := rfl
      rw [this]
      simp [binOp, go_sem]
      rfl
    · intro a b
      simp [eqGuard, go_sem]
  · rintro e w' ⟨rfl, hg⟩
    refine ⟨⟨_, rfl, ?_⟩, (Below.refl _ w).grown hg (Nat.le_refl _) (fun k hk => by cases hk)⟩
    obtain ⟨L, rfl, hn⟩ := ents hD
    obtain ⟨L', rfl, hn'⟩ := ents hD'
    rw [equal_iff hn hn']
    exact ⟨fun x i => by rw [← hh i, ← hh' i]; exact x i, fun x i => by rw [hh i, hh' i]; exact x i⟩
end Go.Proofs.Ytnoilcchegmpfaa.Me
