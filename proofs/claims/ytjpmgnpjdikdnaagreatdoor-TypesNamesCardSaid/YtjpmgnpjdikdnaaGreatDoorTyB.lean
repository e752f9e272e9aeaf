/- Walks of refuse, find, variable. Conditions: the looker lies in memory. -/
import Derived.Test.YtjpmgnpjdikdnaaGreatDoorTyA
namespace Go.Proofs.YtjpmgnpjdikdnaaGreatDoor.Ty
open Go Go.RowKit
open Go.Proofs.YtjpmgnpjdikdnaaGreatDoor.Lx Go.Proofs.YtjpmgnpjdikdnaaGreatDoor.Tr

theorem refuse_c (at_ err : Int) (w : World) : Calls Tryz.prog 167 #[.int .i64 at_, .int .i64 err] w fun e w' => e = badT at_ err ∧ w' = w := by
  go_enter Tryz.func167, Tryz.ntmps167
  go_wp2_with fail
  exact ⟨rfl, rfl, rfl⟩
theorem zero_int (V : World) : (zeroValue 3).run Tryz.prog V = .ok (.int .i64 0) V := by simp [zeroValue, Tryz.t3]
theorem zero_kind (V : World) : (zeroValue 200).run Tryz.prog V = .ok (.int .u8 0) V := by simp [zeroValue, Tryz.t200]
theorem zero_unit (V : World) : (zeroValue 235).run Tryz.prog V = .ok (.agg #[]) V := by simp [zeroValue, Tryz.t235]
theorem look_D {c : Lc} {s : Ls} {w : World} (h : Lk c s w) (nm : ByteArray) (hn : nm.size ≤ maxLen) : (Instr.lookup 150 (.map (some c.dm)) (.string nm) true).run Tryz.prog w = .ok (match findA c.D nm with | some n => .tuple #[.int .i64 n, .bool true] | none => .tuple #[.int .i64 0, .bool false]) w := by
  have := look_run (k := 9) (e := 3) (t := 150) (by kernel_rfl) (by kernel_rfl) (zero_int w) h.mD nm hn true
  rw [findV_map (fun n : Nat => Value.int .i64 n)] at this
  rw [this]
  cases findA c.D nm <;> rfl
theorem look_K {c : Lc} {s : Ls} {w : World} (h : Lk c s w) (nm : ByteArray) (hn : nm.size ≤ maxLen) : (Instr.lookup 159 (.map (some s.kb)) (.string nm) true).run Tryz.prog w = .ok (match findA s.kn nm with | some n => .tuple #[.int .u8 n, .bool true] | none => .tuple #[.int .u8 0, .bool false]) w := by
  have := look_run (k := 9) (e := 200) (t := 159) (by kernel_rfl) (by kernel_rfl) (zero_kind w) h.mq nm hn true
  rw [findV_map (fun n : Int => Value.int .u8 n)] at this
  rw [this]
  cases findA s.kn nm <;> rfl
theorem de_cells {c : Lc} {s : Ls} {w : World} (h : Lk c s w) {i : Nat} {d : De} (hd : c.ds[i]? = some d) : ∃ b off, c.pa = some ⟨b, off, none⟩ ∧ b < c.B ∧ w.cell? ⟨b, off + i * 6, none⟩ = some (.int .u8 d.kind) ∧ w.cell? ⟨b, off + i * 6 + 1, none⟩ = some (.string d.name) ∧ w.cell? ⟨b, off + i * 6 + 2, none⟩ = some (.int .i64 d.n) ∧ w.cell? ⟨b, off + i * 6 + 3, none⟩ = some (.slice d.pa d.params.length d.pcap) ∧ w.cell? ⟨b, off + i * 6 + 4, none⟩ = some (.slice d.ba d.body.length d.bcap) ∧ w.cell? ⟨b, off + i * 6 + 5, none⟩ = some (.int .i64 d.pos) := by
  obtain ⟨b, off, ha, hb, hc⟩ := de_row h.row i d hd
  refine ⟨b, off, ha, hb, ?_, ?_, ?_, ?_, ?_, ?_⟩
  · have := hc 0 _ rfl; rwa [Nat.add_zero] at this
  · have := hc 1 _ rfl; rwa [← Nat.add_assoc] at this
  · have := hc 2 _ rfl; rwa [← Nat.add_assoc] at this
  · have := hc 3 _ rfl; rwa [← Nat.add_assoc] at this
  · have := hc 4 _ rfl; rwa [← Nat.add_assoc] at this
  · have := hc 5 _ rfl; rwa [← Nat.add_assoc] at this
theorem Lk.lim {c : Lc} {s : Ls} {w : World} (h : Lk c s w) : c.ds.length ≤ 9223372036854775807 := by
  have := h.row.le
  have := h.row.lim
  unfold maxLen at this
  omega

/-- how find ends -/
def PostF (w : World) (r : Except (Int × Int) Nat) (e : Ending) (w' : World) : Prop := w' = w ∧ match r with
  | .ok k => e = .returned (.int .i64 k)
  | .error p => e = badT p.1 p.2
set_option maxHeartbeats 2000000 in
set_option maxRecDepth 100000 in
theorem find_c {c : Lc} {s : Ls} {w : World} (h : Lk c s w) (nm : ByteArray) (hn : nm.size ≤ maxLen) (kind at_ : Int) :
    Calls Tryz.prog 220 #[.pointer (some ⟨c.lb, 0, none⟩), .string nm, .int .u8 kind, .int .i64 at_] w (PostF w (findK c.ds c.D s.kn nm kind at_)) := by
  generalize hr : findK c.ds c.D s.kn nm kind at_ = r
  have hl1 := look_D h nm hn
  have hl2 := look_K h nm hn
  have c0 : w.cell? ⟨c.lb, 0, none⟩ = some (.slice c.pa c.ds.length c.pcap) := lk_cell h.blk rfl
  have c1 : w.cell? ⟨c.lb, 1, none⟩ = some (.map (some c.dm)) := lk_cell h.blk rfl
  have c33 : w.cell? ⟨c.lb, 33, none⟩ = some (.map (some s.kb)) := lk_cell h.blk rfl
  have hR := Lib.hid (refuse_c at_)
  unfold findK at hr
  cases hD : findA c.D nm with
  | none =>
    rw [hD] at hl1 hr
    cases hK : findA s.kn nm with
    | none =>
      rw [hK] at hl2 hr
      simp only at hl1 hl2 hr
      replace hr := Lib.hid hr
      clear h hD hK
      go_enter Tryz.func220, Tryz.ntmps220
      go_wp2_with fail
      refine (hR.out _ _).mono ?_
      rintro e w' ⟨rfl, rfl⟩
      have hr' := hr.out
      subst hr'
      exact ⟨rfl, rfl, rfl⟩
    | some k =>
      rw [hK] at hl2 hr
      simp only at hl1 hl2 hr
      replace hr := Lib.hid hr
      clear h hD hK
      go_enter Tryz.func220, Tryz.ntmps220
      go_wp2_with fail
      refine (hR.out _ _).mono ?_
      rintro e w' ⟨rfl, rfl⟩
      have hr' := hr.out
      subst hr'
      exact ⟨rfl, rfl, rfl⟩
  | some i =>
    rw [hD] at hl1 hr
    simp only at hl1 hr
    have hi : i < c.ds.length := h.dlt _ (findA_mem hD)
    have hlim := h.lim
    obtain ⟨d, hd⟩ : ∃ d, c.ds[i]? = some d := ⟨_, List.getElem?_eq_getElem hi⟩
    rw [hd] at hr
    simp only at hr
    obtain ⟨b, off, ha, hb, d0, _⟩ := de_cells h hd
    rw [ha] at c0
    have hi0 : (0 : Int) ≤ (i : Int) := by omega
    have hi1 : (i : Int) < (c.ds.length : Int) := by omega
    generalize d.kind = dk at d0 hr
    cases hK : findA s.kn nm with
    | none =>
      rw [hK] at hl2
      simp only at hl2
      by_cases hk : dk = kind
      · rw [if_pos hk] at hr
        subst hk
        replace hr := Lib.hid hr
        clear h hD hd hb ha hK
        go_enter Tryz.func220, Tryz.ntmps220
        go_wp2_with fail
        go_ret
        have hr' := hr.out
        subst hr'
        exact ⟨rfl, rfl⟩
      · rw [if_neg hk] at hr
        replace hr := Lib.hid hr
        clear h hD hd hb ha hK
        go_enter Tryz.func220, Tryz.ntmps220
        go_wp2_with fail
        refine (hR.out _ _).mono ?_
        rintro e w' ⟨rfl, rfl⟩
        have hr' := hr.out
        subst hr'
        exact ⟨rfl, rfl, rfl⟩
    | some k =>
      rw [hK] at hl2
      simp only at hl2
      by_cases hk : dk = kind
      · rw [if_pos hk] at hr
        subst hk
        replace hr := Lib.hid hr
        clear h hD hd hb ha hK
        go_enter Tryz.func220, Tryz.ntmps220
        go_wp2_with fail
        go_ret
        have hr' := hr.out
        subst hr'
        exact ⟨rfl, rfl⟩
      · rw [if_neg hk] at hr
        replace hr := Lib.hid hr
        clear h hD hd hb ha hK
        go_enter Tryz.func220, Tryz.ntmps220
        go_wp2_with fail
        refine (hR.out _ _).mono ?_
        rintro e w' ⟨rfl, rfl⟩
        have hr' := hr.out
        subst hr'
        exact ⟨rfl, rfl, rfl⟩
/-- how variable ends -/
def PostV (w : World) (r : Except (Int × Int) Int) (e : Ending) (w' : World) : Prop := w' = w ∧ match r with
  | .ok k => e = .returned (.int .u8 k)
  | .error p => e = badT p.1 p.2
set_option maxHeartbeats 2000000 in
set_option maxRecDepth 100000 in
theorem variable_c {c : Lc} {s : Ls} {w : World} (h : Lk c s w) (nm : ByteArray) (hn : nm.size ≤ maxLen) (at_ : Int) :
    Calls Tryz.prog 219 #[.pointer (some ⟨c.lb, 0, none⟩), .string nm, .int .i64 at_] w (PostV w (varK c.ds c.D s.kn nm at_)) := by
  generalize hr : varK c.ds c.D s.kn nm at_ = r
  have hl2 := look_K h nm hn
  have hF := Lib.hid (find_c h nm hn 1 at_)
  have c33 : w.cell? ⟨c.lb, 33, none⟩ = some (.map (some s.kb)) := lk_cell h.blk rfl
  unfold varK at hr
  cases hK : findA s.kn nm with
  | some k =>
    rw [hK] at hl2 hr
    simp only at hl2 hr
    replace hr := Lib.hid hr
    clear h hK hF
    go_enter Tryz.func219, Tryz.ntmps219
    go_wp2_with fail
    go_ret
    have hr' := hr.out
    subst hr'
    exact ⟨rfl, rfl⟩
  | none =>
    rw [hK] at hl2 hr
    simp only at hl2 hr
    generalize findK c.ds c.D s.kn nm 1 at_ = q at hF hr
    replace hr := Lib.hid hr
    clear h hK
    go_enter Tryz.func219, Tryz.ntmps219
    go_wp2_with fail
    refine hF.out.mono ?_
    intro e w' hP
    cases q with
    | ok i =>
      obtain ⟨rfl, rfl⟩ := hP
      have hr' := hr.out
      simp only at hr'
      clear hr hF
      go_wp2_with fail
      go_ret
      subst hr'
      exact ⟨rfl, rfl⟩
    | error p =>
      obtain ⟨rfl, rfl⟩ := hP
      have hr' := hr.out
      simp only at hr'
      subst hr'
      exact ⟨rfl, rfl, rfl⟩
end Go.Proofs.YtjpmgnpjdikdnaaGreatDoor.Ty
