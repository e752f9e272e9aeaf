/- Walk of the iterator of code.allNames: all names of a program, in their row. Conditions: the program lies in memory. -/
import Derived.Test.YtiicjbnocpphdaaDoorCdH
namespace Go.Proofs.YtiicjbnocpphdaaDoor.Cd
open Go Go.RowKit Go.Shelf
open Go.Proofs.YtiicjbnocpphdaaDoor.Lx Go.Proofs.YtiicjbnocpphdaaDoor.Tr Go.Proofs.YtiicjbnocpphdaaDoor.Rg
attribute [local go_sem] Oper.semAt_some

/-- a round, told what it is handed -/
def YldR {α : Type} (l : Nat) (enc : α → Array Value) (R : α → Prop) (J Jx : List α → World → Prop) (Kp : World → World → Prop) (N : Nat) : Prop :=
  ∀ m pre (x : α) W, R x → J pre W → pre.length < N → YieldAt Fence.wide m Tryd.prog l (enc x) W fun e W' =>
    (e = .returned (.bool true) ∧ J (pre ++ [x]) W' ∧ Kp W W') ∨ (e = .returned (.bool false) ∧ Jx (pre ++ [x]) W')
theorem mem_pre {α : Type} {A B C : List α} {x : α} (h : A <+: B) (hx : A = C ++ [x]) : x ∈ B := h.subset (by rw [hx]; simp)
set_option maxHeartbeats 800000 in
theorem allNames_any (p : Pg) (w : World) :
    Calls Tryd.prog 49 #[p.val] w fun e w' =>
      e = .returned (.func (.func 60) #[] #[.pointer (some ⟨w.heap.size, 0, none⟩)]) ∧ w' = w.alloc (.cells ⟨p.vals⟩ 27) := by
  go_enter Tryd.func49, Tryd.ntmps49
  go_wp2_with fail
  go_ret
  exact ⟨rfl, rfl⟩
theorem map_take {α β : Type} (f : α → β) {l : List α} {k : Nat} {x : α} (h : l[k]? = some x) : (l.map f).take (k + 1) = (l.map f).take k ++ [f x] := by
  rw [List.take_add_one, List.getElem?_map, h]; rfl
theorem rowS {w : World} {S : Nat → Prop} {a : Option Addr} {cap n : Nat} {xs : List Value} (h : RowAt w S a cap n xs) {w' : World} (k : Kps S w w') : RowAt w' S a cap n xs := h.below k
set_option maxRecDepth 100000 in
set_option maxHeartbeats 4000000 in
theorem allNames1_in (l n bx : Nat) (p : Pg) (S : Nat → Prop) (J Jx : List ByteArray → World → Prop) (W : World) (hSb : S bx) (hbx : ∀ j u, p.vals[j]? = some u → W.cell? ⟨bx, j, none⟩ = some u)
    (hm : RowAt W S p.ma p.mcap p.mems.length (mmCells p.mems)) (hl : RowAt W S p.la p.lcap p.locks.length (strCells p.locks)) (hf : RowAt W S p.fa p.fcap p.funs.length (fnCells p.funs))
    (hY : YldR l (fun x : ByteArray => #[.string x]) (fun x => x ∈ namesP p) J Jx (Kps S) (namesP p).length) (hJb : ∀ pre W1 W2, J pre W1 → Below W1.heap.size W1 W2 → J pre W2) (hJ0 : J [] W) :
    CallsIn Fence.wide n Tryd.prog 60 #[.func (.yield l) #[] #[], .pointer (some ⟨bx, 0, none⟩)] W fun e' W' => (∃ v, e' = .returned v) ∧
      ((∃ xs, xs = namesP p ∧ J xs W') ∨ (∃ pre, pre <+: namesP p ∧ Jx pre W')) := by
  have hb0 := Lib.hid (fun (V : World) (k : Kps S W V) => k _ _ _ hSb (hbx 0 _ rfl))
  have hb1 := Lib.hid (fun (V : World) (k : Kps S W V) => k _ _ _ hSb (hbx 1 _ rfl))
  have hb2 := Lib.hid (fun (V : World) (k : Kps S W V) => k _ _ _ hSb (hbx 2 _ rfl))
  have c0 := hb0.out W (Kps.refl _ _)
  clear hbx
  obtain ⟨x1, x2⟩ := (⟨hm.le, by have := hm.lim; unfold maxLen at this; omega⟩ : p.mems.length ≤ p.mcap ∧ p.mcap ≤ 9223372036854775807)
  obtain ⟨y1, y2⟩ := (⟨hl.le, by have := hl.lim; unfold maxLen at this; omega⟩ : p.locks.length ≤ p.lcap ∧ p.lcap ≤ 9223372036854775807)
  obtain ⟨z1, z2⟩ := (⟨hf.le, by have := hf.lim; unfold maxLen at this; omega⟩ : p.funs.length ≤ p.fcap ∧ p.fcap ≤ 9223372036854775807)
  obtain ⟨ma, mcap, mems, la, lcap, locks, fa, fcap, funs⟩ := p
  unfold namesP at hY ⊢
  simp only at *
  obtain ⟨M, hM⟩ : ∃ M, M = mems.map Mm.name := ⟨_, rfl⟩
  obtain ⟨F, hF⟩ : ∃ F, F = funs.map Fn.name := ⟨_, rfl⟩
  have hMl : M.length = mems.length := by rw [hM, List.length_map]
  have hFl : F.length = funs.length := by rw [hF, List.length_map]
  have hMt := Lib.hid (fun (k : Nat) (x : Mm) (h : mems[k]? = some x) => (by rw [hM]; exact map_take Mm.name h : M.take (k + 1) = M.take k ++ [x.name]))
  have hFt := Lib.hid (fun (k : Nat) (x : Fn) (h : funs[k]? = some x) => (by rw [hF]; exact map_take Fn.name h : F.take (k + 1) = F.take k ++ [x.name]))
  rw [← hM, ← hF] at hY ⊢
  clear hM hF
  have hlen : (M ++ (locks ++ F)).length = mems.length + (locks.length + funs.length) := by simp [hMl, hFl]
  rw [hlen] at hY
  replace hY := Lib.hid hY
  refine callsIn_of_wp Tryd.func60 rfl trivial ?_ rfl
  simp only [Tryd.ntmps60, List.size_toArray, List.length_cons, List.length_nil, Nat.reduceAdd, Nat.reduceSub, Array.replicate_succ, Array.replicate_zero, List.push_toArray, List.append_toArray, List.nil_append, List.cons_append]
  gi_wp2_with fail
  gi_loopw [12] (fun i wr => ∃ k : Nat, k ≤ mems.length ∧ i = .int .i64 k ∧ Hid (J (M.take k) wr) ∧ Hid (Kps S W wr)) (fun i _ => mems.length - (intOf i).toNat)
  case atStart => exact ⟨0, Nat.zero_le _, rfl, Lib.hid (by simpa using hJ0), Lib.hid (Kps.refl _ _)⟩
  case round =>
    obtain ⟨k, hk, rfl, hJk, hkp⟩ := hrel
    by_cases hlt : k < mems.length
    · obtain ⟨x, hx⟩ : ∃ x, mems[k]? = some x := ⟨_, List.getElem?_eq_getElem hlt⟩
      obtain ⟨b, off, ha, _, d0, d1, d2⟩ := mm_row (hm.below hkp.out) k x hx
      have htk := hMt.out k x hx
      have hi0 : (0 : Int) ≤ (k : Int) := by omega
      have hi1 : (k : Int) < (mems.length : Int) := by omega
      have hbe := Lib.hid (b_alloc wr (.cells #[.string x.name, .int .i64 x.size, .int .i64 x.first] 50))
      have hpp : Hid (M.take (k + 1) <+: M ++ (locks ++ F)) := Lib.hid ((List.take_prefix _ _).trans (List.prefix_append _ _))
      obtain ⟨fn, tmps, assign, body, hy, hR⟩ := hY.out (n - 1) (M.take k) x.name _ (mem_pre hpp.out htk) (hJb _ _ _ hJk.out hbe.out) (by rw [List.length_take]; omega)
      rw [← htk] at hR
      have hkq := Lib.hid (hkp.out.trans (Kps.of_below hbe.out))
      rw [ha]
      clear hx htk hJk hm hY hMt hFt hl hf hb0 hb1 hb2
      gi_wp2_with fail
      refine ⟨fun h => (by cases h), hR.mono ?_⟩
      clear hR hy
      rintro e W3 (⟨rfl, hJ3, hk3⟩ | ⟨rfl, hx3⟩)
      · have hk4 := Lib.hid (hkq.out.trans hk3)
        replace hJ3 := Lib.hid hJ3
        gi_wp2_with fail
        go_roundw
        case rel => exact ⟨k + 1, by omega, by go_num, hJ3, hk4⟩
        case measure => simp [intOf]; omega
      · replace hx3 := Lib.hid hx3
        gi_wp2_with fail
        exact ⟨rfl, .tuple #[], by simp [results, Tryd.results60, go_sem], ⟨_, rfl⟩, .inr ⟨_, hpp.out, hx3.out⟩⟩
    · have hJe : Hid (J M wr) := Lib.hid (by have h := hJk.out; rw [List.take_of_length_le (by omega)] at h; exact h)
      have e1 := hb1.out wr hkp.out
      clear hJk
      generalize wr = w1 at *
      gi_wp2_with fail
      gi_loopw [25] (fun i wr => ∃ k : Nat, k ≤ locks.length ∧ i = .int .i64 k ∧ Hid (J (M ++ locks.take k) wr) ∧ Hid (Kps S W wr)) (fun i _ => locks.length - (intOf i).toNat)
      case atStart => exact ⟨0, Nat.zero_le _, rfl, Lib.hid (by simpa using hJe.out), hkp⟩
      case round =>
        clear hkp hJe e1
        obtain ⟨k, hk, rfl, hJk, hkp⟩ := hrel
        by_cases hlt : k < locks.length
        · obtain ⟨x, hx⟩ : ∃ x, locks[k]? = some x := ⟨_, List.getElem?_eq_getElem hlt⟩
          obtain ⟨b, off, ha, _, d0⟩ := str_row (hl.below hkp.out) k x hx
          have htk : M ++ locks.take (k + 1) = M ++ locks.take k ++ [x] := by rw [List.take_add_one, hx, List.append_assoc]; rfl
          have hi0 : (0 : Int) ≤ (k : Int) := by omega
          have hi1 : (k : Int) < (locks.length : Int) := by omega
          have hpp : Hid (M ++ locks.take (k + 1) <+: M ++ (locks ++ F)) := Lib.hid ((List.prefix_append_right_inj M).2 ((List.take_prefix _ _).trans (List.prefix_append _ _)))
          obtain ⟨fn, tmps, assign, body, hy, hR⟩ := hY.out (n - 1) (M ++ locks.take k) x wr (mem_pre hpp.out htk) hJk.out (by rw [List.length_append, List.length_take]; omega)
          rw [← htk] at hR
          rw [ha]
          clear hx htk hJk hm hY hMt hFt hl hf hb0 hb1 hb2
          gi_wp2_with fail
          refine ⟨fun h => (by cases h), hR.mono ?_⟩
          clear hR hy
          rintro e W3 (⟨rfl, hJ3, hk3⟩ | ⟨rfl, hx3⟩)
          · have hk4 := Lib.hid (hkp.out.trans hk3)
            replace hJ3 := Lib.hid hJ3
            gi_wp2_with fail
            go_roundw
            case rel => exact ⟨k + 1, by omega, by go_num, hJ3, hk4⟩
            case measure => simp [intOf]; omega
          · replace hx3 := Lib.hid hx3
            gi_wp2_with fail
            exact ⟨rfl, .tuple #[], by simp [results, Tryd.results60, go_sem], ⟨_, rfl⟩, .inr ⟨_, hpp.out, hx3.out⟩⟩
        · have hJe : Hid (J (M ++ locks) wr) := Lib.hid (by have h := hJk.out; rw [List.take_of_length_le (by omega)] at h; exact h)
          have e2 := hb2.out wr hkp.out
          clear hJk
          generalize wr = w2 at *
          gi_wp2_with fail
          gi_loopw [37] (fun i wr => ∃ k : Nat, k ≤ funs.length ∧ i = .int .i64 k ∧ Hid (J (M ++ (locks ++ F.take k)) wr) ∧ Hid (Kps S W wr)) (fun i _ => funs.length - (intOf i).toNat)
          case atStart => exact ⟨0, Nat.zero_le _, rfl, Lib.hid (by simpa using hJe.out), hkp⟩
          case round =>
            clear hkp hJe e2
            obtain ⟨k, hk, rfl, hJk, hkp⟩ := hrel
            by_cases hlt : k < funs.length
            · obtain ⟨x, hx⟩ : ∃ x, funs[k]? = some x := ⟨_, List.getElem?_eq_getElem hlt⟩
              obtain ⟨b, off, ha, _, d0, d1, d2, d3, d4⟩ := fn_row (hf.below hkp.out) k x hx
              have htk : M ++ (locks ++ F.take (k + 1)) = M ++ (locks ++ F.take k) ++ [x.name] := by rw [hFt.out k x hx]; simp only [List.append_assoc]
              have hi0 : (0 : Int) ≤ (k : Int) := by omega
              have hi1 : (k : Int) < (funs.length : Int) := by omega
              have hbe := Lib.hid (b_alloc wr (.cells #[.string x.name, .bool x.thread, .int .i64 x.params, .int .i64 x.regs, .slice x.ca x.code.length x.ccap] 42))
              have hpp : Hid (M ++ (locks ++ F.take (k + 1)) <+: M ++ (locks ++ F)) := Lib.hid ((List.prefix_append_right_inj M).2 ((List.prefix_append_right_inj locks).2 (List.take_prefix _ _)))
              obtain ⟨fn, tmps, assign, body, hy, hR⟩ := hY.out (n - 1) (M ++ (locks ++ F.take k)) x.name _ (mem_pre hpp.out htk) (hJb _ _ _ hJk.out hbe.out) (by rw [List.length_append, List.length_append, List.length_take]; omega)
              rw [← htk] at hR
              have hkq := Lib.hid (hkp.out.trans (Kps.of_below hbe.out))
              rw [ha]
              clear hx htk hJk hm hY hMt hFt hl hf hb0 hb1 hb2
              gi_wp2_with fail
              refine ⟨fun h => (by cases h), hR.mono ?_⟩
              clear hR hy
              rintro e W3 (⟨rfl, hJ3, hk3⟩ | ⟨rfl, hx3⟩)
              · have hk4 := Lib.hid (hkq.out.trans hk3)
                replace hJ3 := Lib.hid hJ3
                gi_wp2_with fail
                go_roundw
                case rel => exact ⟨k + 1, by omega, by go_num, hJ3, hk4⟩
                case measure => simp [intOf]; omega
              · replace hx3 := Lib.hid hx3
                gi_wp2_with fail
                exact ⟨rfl, .tuple #[], by simp [results, Tryd.results60, go_sem], ⟨_, rfl⟩, .inr ⟨_, hpp.out, hx3.out⟩⟩
            · have hJe : Hid (J (M ++ (locks ++ F)) wr) := Lib.hid (by have h := hJk.out; rw [List.take_of_length_le (by omega)] at h; exact h)
              clear hJk
              gi_wp2_with fail
              go_end0
              exact ⟨⟨_, rfl⟩, .inl ⟨_, rfl, hJe.out⟩⟩
end Go.Proofs.YtiicjbnocpphdaaDoor.Cd
