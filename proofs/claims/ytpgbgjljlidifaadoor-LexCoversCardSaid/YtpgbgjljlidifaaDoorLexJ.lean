/- The walk of the statements' helper works: it returns true, and makes new memory alone. Conditions: lex.signs holds its list. -/
import Derived.Test.YtpgbgjljlidifaaDoorLexI
namespace Go.Proofs.YtpgbgjljlidifaaDoor.Lx
open Go Go.RowKit

/-- the list of signs lies in memory, and of what was there at the beginning nothing has turned -/
def Since (w0 w : World) : Prop := SignsIn w ∧ 0 < w0.heap.size ∧ Below w0.heap.size w0 w
theorem SignsIn.pos {w : World} (h : SignsIn w) : 0 < w.heap.size := by obtain ⟨t, fr, hg⟩ := h; exact (Array.getElem?_eq_some_iff.1 hg).1
theorem Since.start {w : World} (h : SignsIn w) : Since w w := ⟨h, h.pos, Below.refl _ _⟩
theorem Since.next {w0 w w' : World} (h : Since w0 w) (hb : Below w.heap.size w w') : Since w0 w' :=
  ⟨h.1.below h.1.pos hb, h.2.1, h.2.2.trans (hb.mono h.2.2.size)⟩
theorem Since.alloc {w0 w : World} (h : Since w0 w) (o : Obj) : Since w0 (w.alloc o) := h.next ((Below.refl _ _).alloc (Nat.le_refl _) o)
theorem Since.drew {w0 w : World} (h : Since w0 w) (n : Nat) : Since w0 (w.drewN n) := ⟨h.1, h.2.1, ⟨h.2.2.os, h.2.2.tape, h.2.2.output, h.2.2.size, h.2.2.block⟩⟩

theorem badS (s : ByteArray) (p : Nat) (a : Int) (ha : a = p) (w0 w : World) (h : Since w0 w) (hs : decide (s.size ≤ 9223372036854775807) = true) (hr : res s.data.toList = ([], p, 63)) :
    Calls Tryd.prog 11 #[.string s, .int .i64 a] w fun e w' => e = .returned (.bool true) ∧ Since w0 w' :=
  (bad_yes s p a ha w (by unfold maxLen; exact of_decide_eq_true hs) h.1 hr).mono fun _ _ ⟨he, hb⟩ => ⟨he, h.next hb⟩
theorem nameS (s : ByteArray) (v : Bool) (w0 w : World) (h : Since w0 w) (hs : decide (s.size ≤ 9223372036854775807) = true) (hv : nme s.data.toList = v) :
    Calls Tryd.prog 13 #[.string s] w fun e w' => e = .returned (.bool v) ∧ Since w0 w' :=
  (name_any s w (by unfold maxLen; exact of_decide_eq_true hs) h.1).mono fun _ _ ⟨he, hb⟩ => ⟨hv ▸ he, h.next hb⟩

/-- what cut asks of its arguments, reckoned -/
def fits (s kinds : ByteArray) (ts : List Tok) : Bool :=
  decide (s.size ≤ 65536) && decide (0 < ts.length) && decide (ts.length ≤ 65536) && decide (kinds.size = ts.length) &&
  (List.range ts.length).all fun i => match ts[i]?, kinds.data[i]? with
    | some t, some c => (t.kind == 1 || t.kind == 2 || t.kind == 3) && (c.toNat == kch t.kind) && decide (t.pos + t.txt.length ≤ s.size) && ((s.extract t.pos (t.pos + t.txt.length)).data == t.txt.toArray)
    | _, _ => false
theorem cutS (s kinds : ByteArray) (ts : List Tok) (X : Array Value) (n : Nat) (w0 w : World) (h : Since w0 w) (hr : res s.data.toList = (ts, 0, 0)) (hX : X.toList = ts.map fun t => Value.string ⟨t.txt.toArray⟩) (hf : fits s kinds ts = true) (hn : ts.length = n) :
    Calls Tryd.prog 9 #[.string s, .string kinds, .slice (some ⟨w.heap.size, 0, none⟩) n n] (w.alloc (.cells X 9)) fun e w' => e = .returned (.bool true) ∧ Since w0 w' := by
  subst hn
  unfold fits at hf
  simp only [Bool.and_eq_true, decide_eq_true_eq, List.all_eq_true, List.mem_range] at hf
  obtain ⟨⟨⟨⟨h1, h2⟩, h3⟩, h4⟩, h5⟩ := hf
  have hne : ts ≠ [] := by intro e; rw [e] at h2; simp at h2
  have h' := h.alloc (.cells X 9)
  have key : ∀ (i : Nat) (t : Tok), ts[i]? = some t → ∃ c, kinds.data[i]? = some c ∧ (t.kind = 1 ∨ t.kind = 2 ∨ t.kind = 3) ∧ c.toNat = kch t.kind ∧ t.pos + t.txt.length ≤ s.size ∧ (s.extract t.pos (t.pos + t.txt.length)).data = t.txt.toArray := by
    intro i t hi
    have hl : i < ts.length := (List.getElem?_eq_some_iff.1 hi).1
    have := h5 i hl
    rw [hi] at this
    cases hc : kinds.data[i]? with
    | none => rw [hc] at this; simp at this
    | some c =>
      rw [hc] at this
      simp only [Bool.and_eq_true, Bool.or_eq_true, decide_eq_true_eq, beq_iff_eq] at this
      exact ⟨c, rfl, by rcases this.1.1.1 with (h | h) | h <;> simp [h], this.1.1.2, this.1.2, this.2⟩
  refine (cut_yes s kinds ts w.heap.size (w.alloc (.cells X 9)) h1 h'.1 hr hne (by simp) h3 h4 ?_ ?_ ?_).mono fun _ _ ⟨he, hb⟩ => ⟨he, h'.next hb⟩
  · intro i t hi ht
    obtain ⟨c, hc, k1, k2, _⟩ := key i t ht
    refine ⟨k1, ?_⟩
    have : kinds[i] = c := by
      have := (Array.getElem?_eq_some_iff.1 hc).2
      exact this
    rw [this]; exact k2
  · intro i t ht
    have := cells_new w X 9 i (Value.string ⟨t.txt.toArray⟩) (by rw [hX, List.getElem?_map, ht]; rfl)
    rw [Addr.add_lit] at this
    simpa using this
  · intro i t ht
    obtain ⟨c, hc, k1, k2, k3, k4⟩ := key i t ht
    exact ⟨k3, by apply ByteArray.ext; exact k4⟩

theorem wcut1 (w0 w : World) (h : Since w0 w) :
    Calls Tryd.prog 9 #[.string { data := #[120, 49, 61, 45, 50, 59, 35, 121] }, .string { data := #[110, 115, 115, 100, 115] }, .slice (some ⟨w.heap.size, 0, none⟩) 5 5] (w.alloc (.cells #[Value.string { data := #[120, 49] }, Value.string { data := #[61] }, Value.string { data := #[45] }, Value.string { data := #[50] }, Value.string { data := #[59] }] 9)) fun e w' => e = .returned (.bool true) ∧ Since w0 w' :=
  cutS { data := #[120, 49, 61, 45, 50, 59, 35, 121] } { data := #[110, 115, 115, 100, 115] } [⟨1, [120, 49], 0⟩, ⟨3, [61], 2⟩, ⟨3, [45], 3⟩, ⟨2, [50], 4⟩, ⟨3, [59], 5⟩] #[Value.string { data := #[120, 49] }, Value.string { data := #[61] }, Value.string { data := #[45] }, Value.string { data := #[50] }, Value.string { data := #[59] }] 5 w0 w h (by kernel_rfl) (by kernel_rfl) (by kernel_rfl) (by kernel_rfl)
theorem wcut2 (w0 w : World) (h : Since w0 w) :
    Calls Tryd.prog 9 #[.string { data := #[97, 60, 61, 98, 124, 124, 99] }, .string { data := #[110, 115, 110, 115, 110] }, .slice (some ⟨w.heap.size, 0, none⟩) 5 5] (w.alloc (.cells #[Value.string { data := #[97] }, Value.string { data := #[60, 61] }, Value.string { data := #[98] }, Value.string { data := #[124, 124] }, Value.string { data := #[99] }] 9)) fun e w' => e = .returned (.bool true) ∧ Since w0 w' :=
  cutS { data := #[97, 60, 61, 98, 124, 124, 99] } { data := #[110, 115, 110, 115, 110] } [⟨1, [97], 0⟩, ⟨3, [60, 61], 1⟩, ⟨1, [98], 3⟩, ⟨3, [124, 124], 4⟩, ⟨1, [99], 6⟩] #[Value.string { data := #[97] }, Value.string { data := #[60, 61] }, Value.string { data := #[98] }, Value.string { data := #[124, 124] }, Value.string { data := #[99] }] 5 w0 w h (by kernel_rfl) (by kernel_rfl) (by kernel_rfl) (by kernel_rfl)
theorem wbad1 (w0 w : World) (h : Since w0 w) :
    Calls Tryd.prog 11 #[.string { data := #[48, 48, 55] }, .int .i64 0] w fun e w' => e = .returned (.bool true) ∧ Since w0 w' :=
  badS { data := #[48, 48, 55] } 0 0 rfl w0 w h (by kernel_rfl) (by kernel_rfl)
theorem wbad2 (w0 w : World) (h : Since w0 w) :
    Calls Tryd.prog 11 #[.string { data := #[49, 120] }, .int .i64 0] w fun e w' => e = .returned (.bool true) ∧ Since w0 w' :=
  badS { data := #[49, 120] } 0 0 rfl w0 w h (by kernel_rfl) (by kernel_rfl)
theorem wbad3 (w0 w : World) (h : Since w0 w) :
    Calls Tryd.prog 11 #[.string { data := #[97, 36] }, .int .i64 1] w fun e w' => e = .returned (.bool true) ∧ Since w0 w' :=
  badS { data := #[97, 36] } 1 1 rfl w0 w h (by kernel_rfl) (by kernel_rfl)
theorem wbad4 (w0 w : World) (h : Since w0 w) :
    Calls Tryd.prog 11 #[.string { data := #[97, 38, 98] }, .int .i64 1] w fun e w' => e = .returned (.bool true) ∧ Since w0 w' :=
  badS { data := #[97, 38, 98] } 1 1 rfl w0 w h (by kernel_rfl) (by kernel_rfl)
theorem wnm1 (w0 w : World) (h : Since w0 w) :
    Calls Tryd.prog 13 #[.string { data := #[120, 49] }] w fun e w' => e = .returned (.bool true) ∧ Since w0 w' :=
  nameS { data := #[120, 49] } true w0 w h (by kernel_rfl) (by kernel_rfl)
theorem wnm2 (w0 w : World) (h : Since w0 w) :
    Calls Tryd.prog 13 #[.string { data := #[105, 102] }] w fun e w' => e = .returned (.bool false) ∧ Since w0 w' :=
  nameS { data := #[105, 102] } false w0 w h (by kernel_rfl) (by kernel_rfl)

set_option maxHeartbeats 1600000 in
set_option maxRecDepth 100000 in
theorem works_any (w0 w : World) (h : Since w0 w) :
    Calls Tryd.prog 8 #[] w fun e w' => e = .returned (.bool true) ∧ Since w0 w' := by
  go_enter Tryd.func8, Tryd.ntmps8
  go_wp2_with fail
  refine (wcut1 w0 _ h).mono ?_
  rintro e w1 ⟨rfl, h1⟩
  go_wp2_with fail
  refine (wcut2 w0 _ h1).mono ?_
  rintro e w2 ⟨rfl, h2⟩
  go_wp2_with fail
  refine (wbad1 w0 _ h2).mono ?_
  rintro e w3 ⟨rfl, h3⟩
  go_wp2_with fail
  refine (wbad2 w0 _ h3).mono ?_
  rintro e w4 ⟨rfl, h4⟩
  go_wp2_with fail
  refine (wbad3 w0 _ h4).mono ?_
  rintro e w5 ⟨rfl, h5⟩
  go_wp2_with fail
  refine (wbad4 w0 _ h5).mono ?_
  rintro e w6 ⟨rfl, h6⟩
  go_wp2_with fail
  refine (wnm1 w0 _ h6).mono ?_
  rintro e w7 ⟨rfl, h7⟩
  go_wp2_with fail
  refine (wnm2 w0 _ h7).mono ?_
  rintro e w8 ⟨rfl, h8⟩
  go_wp2_with fail
  go_ret
  exact ⟨rfl, h8⟩
end Go.Proofs.YtpgbgjljlidifaaDoor.Lx
