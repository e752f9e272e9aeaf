/- What a program that was read holds in memory, element by element. Conditions: none. -/
import Derived.Test.YtfhmhplbkheojaaGreatDoorGrAW
namespace Go.Proofs.YtfhmhplbkheojaaGreatDoor.Pa
open Go Go.RowKit
open Go.Proofs.YtfhmhplbkheojaaGreatDoor.Lx Go.Proofs.YtfhmhplbkheojaaGreatDoor.Tr

theorem eaL_get {l : List Ex} {i : Nat} {x : Ex} (h : (eaL l)[i]? = some x) : ∃ e, l[i]? = some e ∧ ea e = x := by
  rw [eaL_map, List.getElem?_map] at h
  cases hl : l[i]? with
  | none => rw [hl] at h; cases h
  | some e => rw [hl] at h; exact ⟨e, rfl, by simpa using h⟩
theorem saL_get {l : List St} {i : Nat} {x : St} (h : (saL l)[i]? = some x) : ∃ e, l[i]? = some e ∧ sa e = x := by
  rw [saL_map, List.getElem?_map] at h
  cases hl : l[i]? with
  | none => rw [hl] at h; cases h
  | some e => rw [hl] at h; exact ⟨e, rfl, by simpa using h⟩
theorem eaL_len (l : List Ex) : (eaL l).length = l.length := by rw [eaL_map]; simp
theorem saL_len (l : List St) : (saL l).length = l.length := by rw [saL_map]; simp
theorem VXs.len {S : Nat → Prop} {xs : List Ex} {v : Value} {w : World} (h : VXs S xs v w) : ∃ a cap, v = .slice a xs.length cap := by
  obtain ⟨l, a, cap, rfl, _, _, rfl⟩ := h
  exact ⟨a, cap, by rw [eaL_len]⟩
theorem VTs.len {S : Nat → Prop} {xs : List St} {v : Value} {w : World} (h : VTs S xs v w) : ∃ a cap, v = .slice a xs.length cap := by
  obtain ⟨l, a, cap, rfl, _, _, rfl⟩ := h
  exact ⟨a, cap, by rw [saL_len]⟩
theorem VN.len {S : Nat → Prop} {xs : List ByteArray} {v : Value} {w : World} (h : VN S xs v w) : ∃ a cap, v = .slice a xs.length cap := by
  obtain ⟨a, cap, rfl, _⟩ := h
  exact ⟨a, cap, rfl⟩
theorem VN.get {S : Nat → Prop} {xs : List ByteArray} {v : Value} {w : World} (h : VN S xs v w) (i : Nat) (x : ByteArray) (hx : xs[i]? = some x) : ∃ b off cap, v = .slice (some ⟨b, off, none⟩) xs.length cap ∧ w.cell? ⟨b, off + i, none⟩ = some (.string x) := by
  obtain ⟨a, cap, rfl, h1, _⟩ := h
  obtain ⟨b, off, rfl, _, hc⟩ := h1.at_ i (.string x) (by unfold strCells; rw [List.getElem?_map, hx]; rfl)
  exact ⟨b, off, cap, rfl, hc⟩
theorem VXs.get {S : Nat → Prop} {xs : List Ex} {v : Value} {w : World} (h : VXs S xs v w) (i : Nat) (k : Int) (nm : ByteArray) (n : Int) (args : List Ex) (pos : Int) (hx : xs[i]? = some (.mk k nm n none 0 args pos)) :
    ∃ b off cap va, v = .slice (some ⟨b, off, none⟩) xs.length cap ∧ VXs S args va w ∧ w.cell? ⟨b, off + (i * 5 + 0), none⟩ = some (.int .u8 k) ∧ w.cell? ⟨b, off + (i * 5 + 1), none⟩ = some (.string nm) ∧ w.cell? ⟨b, off + (i * 5 + 2), none⟩ = some (.int .i64 n) ∧ w.cell? ⟨b, off + (i * 5 + 3), none⟩ = some va ∧ w.cell? ⟨b, off + (i * 5 + 4), none⟩ = some (.int .i64 pos) ∧
      ∃ e, ea e = .mk k nm n none 0 args pos ∧ Ex.In w S e ∧ (⟨e.vals⟩ : Array Value) = #[.int .u8 k, .string nm, .int .i64 n, va, .int .i64 pos] := by
  obtain ⟨l, a, cap, rfl, h1, h2, rfl⟩ := h
  obtain ⟨e, he, hea⟩ := eaL_get hx
  obtain ⟨b, off, rfl, _, hc⟩ := ex_row h1 i e he
  have hin := Ex.InL.get h2 he
  obtain ⟨k1, n1, y1, a1, c1, q1, p1⟩ := e
  have hea' := hea
  rw [ea_eq] at hea'
  simp only [Ex.mk.injEq, true_and] at hea'
  obtain ⟨rfl, rfl, rfl, rfl, rfl⟩ := hea'
  have hin' := hin
  unfold Ex.In at hin'
  exact ⟨b, off, cap, _, by rw [eaL_len], ⟨q1, a1, c1, rfl, hin'.2.2.2.2.1, hin'.2.2.2.2.2, rfl⟩, hc 0 _ rfl, hc 1 _ rfl, hc 2 _ rfl, hc 3 _ rfl, hc 4 _ rfl, _, hea, hin, rfl⟩
theorem VTs.get {S : Nat → Prop} {xs : List St} {v : Value} {w : World} (h : VTs S xs v w) (i : Nat) (k : Int) (nm to : ByteArray) (nw : Bool) (e : List Ex) (bd els : List St) (pos : Int) (hx : xs[i]? = some (.mk k nm to nw none 0 e none 0 bd none 0 els pos)) :
    ∃ b off cap ve vb vl, v = .slice (some ⟨b, off, none⟩) xs.length cap ∧ VXs S e ve w ∧ VTs S bd vb w ∧ VTs S els vl w ∧ w.cell? ⟨b, off + (i * 8 + 0), none⟩ = some (.int .u8 k) ∧ w.cell? ⟨b, off + (i * 8 + 1), none⟩ = some (.string nm) ∧ w.cell? ⟨b, off + (i * 8 + 2), none⟩ = some (.string to) ∧ w.cell? ⟨b, off + (i * 8 + 3), none⟩ = some (.bool nw) ∧ w.cell? ⟨b, off + (i * 8 + 4), none⟩ = some ve ∧ w.cell? ⟨b, off + (i * 8 + 5), none⟩ = some vb ∧ w.cell? ⟨b, off + (i * 8 + 6), none⟩ = some vl ∧ w.cell? ⟨b, off + (i * 8 + 7), none⟩ = some (.int .i64 pos) := by
  obtain ⟨l, a, cap, rfl, h1, h2, rfl⟩ := h
  obtain ⟨s, he, hea⟩ := saL_get hx
  obtain ⟨b, off, rfl, _, hc⟩ := st_row h1 i s he
  have hin := St.InL.get h2 he
  obtain ⟨k1, n1, t1, nw1, ea1, ec1, e1, ba1, bc1, b1, la1, lc1, l1, p1⟩ := s
  rw [sa_eq] at hea
  simp only [St.mk.injEq, true_and] at hea
  obtain ⟨rfl, rfl, rfl, rfl, rfl, rfl, rfl, rfl⟩ := hea
  unfold St.In at hin
  obtain ⟨_, _, _, _, i1, i2, i3, i4, i5, i6⟩ := hin
  exact ⟨b, off, cap, _, _, _, by rw [saL_len], ⟨e1, ea1, ec1, rfl, i1, i2, rfl⟩, ⟨b1, ba1, bc1, rfl, i3, i4, rfl⟩, ⟨l1, la1, lc1, rfl, i5, i6, rfl⟩, hc 0 _ rfl, hc 1 _ rfl, hc 2 _ rfl, hc 3 _ rfl, hc 4 _ rfl, hc 5 _ rfl, hc 6 _ rfl, hc 7 _ rfl⟩
theorem VDs.get {S : Nat → Prop} {xs : List De} {v : Value} {w : World} (h : VDs S xs v w) (i : Nat) (k n pos : Int) (nm : ByteArray) (ps : List ByteArray) (bd : List St) (hx : xs[i]? = some ⟨k, nm, n, none, 0, ps, none, 0, bd, pos⟩) :
    ∃ b off cap vp vb, v = .slice (some ⟨b, off, none⟩) xs.length cap ∧ VN S ps vp w ∧ VTs S bd vb w ∧ w.cell? ⟨b, off + (i * 6 + 0), none⟩ = some (.int .u8 k) ∧ w.cell? ⟨b, off + (i * 6 + 1), none⟩ = some (.string nm) ∧ w.cell? ⟨b, off + (i * 6 + 2), none⟩ = some (.int .i64 n) ∧ w.cell? ⟨b, off + (i * 6 + 3), none⟩ = some vp ∧ w.cell? ⟨b, off + (i * 6 + 4), none⟩ = some vb ∧ w.cell? ⟨b, off + (i * 6 + 5), none⟩ = some (.int .i64 pos) := by
  obtain ⟨l, a, cap, rfl, h1, h2, rfl⟩ := h
  rw [List.getElem?_map] at hx
  cases hl : l[i]? with
  | none => rw [hl] at hx; cases hx
  | some d =>
    rw [hl] at hx
    have hda : da d = ⟨k, nm, n, none, 0, ps, none, 0, bd, pos⟩ := by simpa using hx
    obtain ⟨b, off, rfl, _, hc⟩ := de_row h1 i d hl
    have hin := h2 d (List.mem_of_getElem? hl)
    obtain ⟨k1, n1, y1, pa1, pc1, p1, ba1, bc1, b1, q1⟩ := d
    unfold da at hda
    simp only [De.mk.injEq, true_and] at hda
    obtain ⟨rfl, rfl, rfl, rfl, rfl, rfl⟩ := hda
    obtain ⟨_, _, _, _, i1, i2, i3, i4⟩ := hin
    exact ⟨b, off, cap, _, _, by rw [List.length_map], ⟨pa1, pc1, rfl, i1, i2⟩, ⟨b1, ba1, bc1, rfl, i3, i4, rfl⟩, hc 0 _ rfl, hc 1 _ rfl, hc 2 _ rfl, hc 3 _ rfl, hc 4 _ rfl, hc 5 _ rfl⟩
end Go.Proofs.YtfhmhplbkheojaaGreatDoor.Pa
