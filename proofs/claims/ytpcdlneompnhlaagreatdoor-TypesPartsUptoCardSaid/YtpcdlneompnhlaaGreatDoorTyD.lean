/- Walks of what each Kind of expressions asks; by induction, their contract. Conditions: none. -/
import Derived.Test.YtpcdlneompnhlaaGreatDoorTyC
namespace Go.Proofs.YtpcdlneompnhlaaGreatDoor.Ty
open Go Go.RowKit
open Go.Proofs.YtpcdlneompnhlaaGreatDoor.Lx Go.Proofs.YtpcdlneompnhlaaGreatDoor.Tr

theorem Ex.sz_eq (k : Int) (nm : ByteArray) (n : Int) (a : Option Addr) (cap : Nat) (args : List Ex) (pos : Int) : Ex.sz (.mk k nm n a cap args pos) = 1 + Ex.szL args := by conv => lhs; unfold Ex.sz

set_option maxHeartbeats 2000000 in
set_option maxRecDepth 100000 in
theorem sum_c (n : Nat) (hW : ContW n) (c : Lc) (s : Ls) (w : World) (k : Int) (nm : ByteArray) (m : Int) (a' : Option Addr) (cap' : Nat) (args : List Ex) (pos : Int) (hsz : ∀ e ∈ args, e.sz ≤ n) (hok : okEL args) (hin : Ex.In w (fun b => b < c.B) (.mk k nm m a' cap' args pos)) (h : Lk c s w) :
    Calls Tryz.prog 121 #[.pointer (some ⟨c.lb, 0, none⟩), .agg #[.int .u8 k, .string nm, .int .i64 m, .slice a' args.length cap', .int .i64 pos]] w (PostK w (match wantK c.ds c.D s.kn 1 args with | .error p => .error p | .ok _ => .ok 1)) := by
  have hb1 : Below w.heap.size w (w.alloc (.cells #[.int .u8 k, .string nm, .int .i64 m, .slice a' args.length cap', .int .i64 pos] 62)) := (Below.refl _ _).alloc (Nat.le_refl _) _
  unfold Ex.In at hin
  obtain ⟨_, _, _, _, hrow, hinl⟩ := hin
  have hc := hW c s _ a' cap' args 1 hsz hok (hrow.below (Kps.of_below hb1)) (Ex.InL.below (Kps.of_below hb1) _ hinl) (h.ext hb1)
  generalize wantK c.ds c.D s.kn 1 args = q at hc ⊢
  replace hc := Lib.hid hc
  replace hb1 := Lib.hid hb1
  clear hrow hinl h hok hsz hW
  go_enter Tryz.func121, Tryz.ntmps121
  go_wp2_with fail
  refine hc.out.mono ?_
  rintro e w2 ⟨hb2, hq⟩
  have hB := Lib.hid (hb1.out.trans (hb2.mono hb1.out.size))
  cases q with
  | ok _ =>
    simp only at hq
    subst hq
    clear hb2 hb1 hc
    go_wp2_with fail
    go_ret
    exact ⟨hB.out, rfl⟩
  | error p =>
    simp only at hq
    subst hq
    exact ⟨rfl, hB.out, rfl⟩

set_option maxHeartbeats 2000000 in
set_option maxRecDepth 100000 in
theorem logic_c (n : Nat) (hW : ContW n) (c : Lc) (s : Ls) (w : World) (k : Int) (nm : ByteArray) (m : Int) (a' : Option Addr) (cap' : Nat) (args : List Ex) (pos : Int) (hsz : ∀ e ∈ args, e.sz ≤ n) (hok : okEL args) (hin : Ex.In w (fun b => b < c.B) (.mk k nm m a' cap' args pos)) (h : Lk c s w) :
    Calls Tryz.prog 122 #[.pointer (some ⟨c.lb, 0, none⟩), .agg #[.int .u8 k, .string nm, .int .i64 m, .slice a' args.length cap', .int .i64 pos]] w (PostK w (match wantK c.ds c.D s.kn 2 args with | .error p => .error p | .ok _ => .ok 2)) := by
  have hb1 : Below w.heap.size w (w.alloc (.cells #[.int .u8 k, .string nm, .int .i64 m, .slice a' args.length cap', .int .i64 pos] 62)) := (Below.refl _ _).alloc (Nat.le_refl _) _
  unfold Ex.In at hin
  obtain ⟨_, _, _, _, hrow, hinl⟩ := hin
  have hc := hW c s _ a' cap' args 2 hsz hok (hrow.below (Kps.of_below hb1)) (Ex.InL.below (Kps.of_below hb1) _ hinl) (h.ext hb1)
  generalize wantK c.ds c.D s.kn 2 args = q at hc ⊢
  replace hc := Lib.hid hc
  replace hb1 := Lib.hid hb1
  clear hrow hinl h hok hsz hW
  go_enter Tryz.func122, Tryz.ntmps122
  go_wp2_with fail
  refine hc.out.mono ?_
  rintro e w2 ⟨hb2, hq⟩
  have hB := Lib.hid (hb1.out.trans (hb2.mono hb1.out.size))
  cases q with
  | ok _ =>
    simp only at hq
    subst hq
    clear hb2 hb1 hc
    go_wp2_with fail
    go_ret
    exact ⟨hB.out, rfl⟩
  | error p =>
    simp only at hq
    subst hq
    exact ⟨rfl, hB.out, rfl⟩

set_option maxHeartbeats 2000000 in
set_option maxRecDepth 100000 in
theorem compare_c (n : Nat) (hW : ContW n) (c : Lc) (s : Ls) (w : World) (k : Int) (nm : ByteArray) (m : Int) (a' : Option Addr) (cap' : Nat) (args : List Ex) (pos : Int) (hsz : ∀ e ∈ args, e.sz ≤ n) (hok : okEL args) (hin : Ex.In w (fun b => b < c.B) (.mk k nm m a' cap' args pos)) (h : Lk c s w) :
    Calls Tryz.prog 125 #[.pointer (some ⟨c.lb, 0, none⟩), .agg #[.int .u8 k, .string nm, .int .i64 m, .slice a' args.length cap', .int .i64 pos]] w (PostK w (match wantK c.ds c.D s.kn 1 args with | .error p => .error p | .ok _ => .ok 2)) := by
  have hb1 : Below w.heap.size w (w.alloc (.cells #[.int .u8 k, .string nm, .int .i64 m, .slice a' args.length cap', .int .i64 pos] 62)) := (Below.refl _ _).alloc (Nat.le_refl _) _
  unfold Ex.In at hin
  obtain ⟨_, _, _, _, hrow, hinl⟩ := hin
  have hc := hW c s _ a' cap' args 1 hsz hok (hrow.below (Kps.of_below hb1)) (Ex.InL.below (Kps.of_below hb1) _ hinl) (h.ext hb1)
  generalize wantK c.ds c.D s.kn 1 args = q at hc ⊢
  replace hc := Lib.hid hc
  replace hb1 := Lib.hid hb1
  clear hrow hinl h hok hsz hW
  go_enter Tryz.func125, Tryz.ntmps125
  go_wp2_with fail
  refine hc.out.mono ?_
  rintro e w2 ⟨hb2, hq⟩
  have hB := Lib.hid (hb1.out.trans (hb2.mono hb1.out.size))
  cases q with
  | ok _ =>
    simp only at hq
    subst hq
    clear hb2 hb1 hc
    go_wp2_with fail
    go_ret
    exact ⟨hB.out, rfl⟩
  | error p =>
    simp only at hq
    subst hq
    exact ⟨rfl, hB.out, rfl⟩

set_option maxHeartbeats 2000000 in
set_option maxRecDepth 100000 in
theorem named_c (c : Lc) (s : Ls) (w : World) (k : Int) (nm : ByteArray) (m : Int) (a' : Option Addr) (cap' : Nat) (args : List Ex) (pos : Int) (hin : Ex.In w (fun b => b < c.B) (.mk k nm m a' cap' args pos)) (h : Lk c s w) :
    Calls Tryz.prog 123 #[.pointer (some ⟨c.lb, 0, none⟩), .agg #[.int .u8 k, .string nm, .int .i64 m, .slice a' args.length cap', .int .i64 pos]] w (PostK w (varK c.ds c.D s.kn nm pos)) := by
  have hb1 : Below w.heap.size w (w.alloc (.cells #[.int .u8 k, .string nm, .int .i64 m, .slice a' args.length cap', .int .i64 pos] 62)) := (Below.refl _ _).alloc (Nat.le_refl _) _
  unfold Ex.In at hin
  obtain ⟨_, hn, _, _, _, _⟩ := hin
  have hc := variable_c (h.ext hb1) nm hn pos
  generalize varK c.ds c.D s.kn nm pos = q at hc ⊢
  replace hc := Lib.hid hc
  replace hb1 := Lib.hid hb1
  clear h hn
  go_enter Tryz.func123, Tryz.ntmps123
  go_wp2_with fail
  refine hc.out.mono ?_
  rintro e w2 ⟨rfl, hq⟩
  cases q with
  | ok _ =>
    simp only at hq
    subst hq
    clear hc
    go_wp2_with fail
    go_ret
    exact ⟨hb1.out, rfl⟩
  | error p =>
    simp only at hq
    subst hq
    exact ⟨rfl, hb1.out, rfl⟩

set_option maxHeartbeats 2000000 in
set_option maxRecDepth 100000 in
theorem cell_c (n : Nat) (hW : ContW n) (c : Lc) (s : Ls) (w : World) (k : Int) (nm : ByteArray) (m : Int) (a' : Option Addr) (cap' : Nat) (args : List Ex) (pos : Int) (hsz : ∀ e ∈ args, e.sz ≤ n) (hok : okEL args) (hin : Ex.In w (fun b => b < c.B) (.mk k nm m a' cap' args pos)) (h : Lk c s w) :
    Calls Tryz.prog 124 #[.pointer (some ⟨c.lb, 0, none⟩), .agg #[.int .u8 k, .string nm, .int .i64 m, .slice a' args.length cap', .int .i64 pos]] w (PostK w (match findK c.ds c.D s.kn nm 2 pos with | .error p => .error p | .ok _ => match wantK c.ds c.D s.kn 1 args with | .error p => .error p | .ok _ => .ok 1)) := by
  have hb1 : Below w.heap.size w (w.alloc (.cells #[.int .u8 k, .string nm, .int .i64 m, .slice a' args.length cap', .int .i64 pos] 62)) := (Below.refl _ _).alloc (Nat.le_refl _) _
  unfold Ex.In at hin
  obtain ⟨_, hn, _, _, hrow, hinl⟩ := hin
  have hc := hW c s _ a' cap' args 1 hsz hok (hrow.below (Kps.of_below hb1)) (Ex.InL.below (Kps.of_below hb1) _ hinl) (h.ext hb1)
  have hf := find_c (h.ext hb1) nm hn 2 pos
  generalize wantK c.ds c.D s.kn 1 args = q at hc ⊢
  generalize findK c.ds c.D s.kn nm 2 pos = q2 at hf ⊢
  replace hc := Lib.hid hc
  replace hf := Lib.hid hf
  replace hb1 := Lib.hid hb1
  clear hrow hinl h hok hsz hW
  go_enter Tryz.func124, Tryz.ntmps124
  go_wp2_with fail
  refine hf.out.mono ?_
  rintro e w2 ⟨rfl, hq⟩
  cases q2 with
  | error p =>
    simp only at hq
    subst hq
    exact ⟨rfl, hb1.out, rfl⟩
  | ok _ =>
    simp only at hq
    subst hq
    clear hf
    go_wp2_with fail
    refine hc.out.mono ?_
    rintro e w2 ⟨hb2, hq⟩
    have hB := Lib.hid (hb1.out.trans (hb2.mono hb1.out.size))
    cases q with
    | ok _ =>
      simp only at hq
      subst hq
      clear hb2 hb1 hc
      go_wp2_with fail
      go_ret
      exact ⟨hB.out, rfl⟩
    | error p =>
      simp only at hq
      subst hq
      exact ⟨rfl, hB.out, rfl⟩

theorem contX_step (n : Nat) (hW : ContW n) : ContX (n + 1) := by
  intro c s w e hsz hok hin h
  obtain ⟨k, nm, m, a', cap', args, pos⟩ := e
  rw [Ex.sz_eq] at hsz
  rw [okE_eq] at hok
  obtain ⟨⟨hk1, hk17, _⟩, hok⟩ := hok
  have hs : ∀ e ∈ args, e.sz ≤ n := fun e he => by
    obtain ⟨i, hi⟩ := List.mem_iff_getElem?.1 he
    have := Ex.sz_get hi
    omega
  rw [exK_eq]
  show Calls Tryz.prog (exF k.toNat) #[.pointer (some ⟨c.lb, 0, none⟩), .agg #[.int .u8 k, .string nm, .int .i64 m, .slice a' args.length cap', .int .i64 pos]] w _
  unfold exF
  by_cases h3 : k = 3
  · rw [if_pos h3, if_pos (by omega)]
    exact named_c c s w k nm m a' cap' args pos hin h
  · rw [if_neg h3, if_neg (by omega)]
    by_cases h4 : k = 4
    · rw [if_pos h4, if_pos (by omega)]
      exact cell_c n hW c s w k nm m a' cap' args pos hs hok hin h
    · rw [if_neg h4, if_neg (by omega)]
      by_cases h5 : k = 2 ∨ k = 6 ∨ k = 16 ∨ k = 17
      · rw [if_pos h5, if_pos (by omega)]
        exact logic_c n hW c s w k nm m a' cap' args pos hs hok hin h
      · rw [if_neg h5, if_neg (by omega)]
        by_cases h6 : 12 ≤ k ∧ k ≤ 15
        · rw [if_pos h6, if_pos (by omega)]
          exact compare_c n hW c s w k nm m a' cap' args pos hs hok hin h
        · rw [if_neg h6, if_neg (by omega)]
          exact sum_c n hW c s w k nm m a' cap' args pos hs hok hin h
theorem contX : ∀ n, ContX n
  | 0 => fun _ _ _ e hsz _ _ _ => by
    obtain ⟨k, nm, m, a', cap', args, pos⟩ := e
    rw [Ex.sz_eq] at hsz
    omega
  | n + 1 => contX_step n (want_step n (contX n))
theorem ex_c {c : Lc} {s : Ls} {w : World} (h : Lk c s w) (e : Ex) (hok : okE e) (hin : Ex.In w (fun b => b < c.B) e) : Calls Tryz.prog (exF (kindE e).toNat) #[.pointer (some ⟨c.lb, 0, none⟩), .agg ⟨e.vals⟩] w (PostK w (exK c.ds c.D s.kn e)) := contX e.sz c s w e (Nat.le_refl _) hok hin h
theorem want_c {c : Lc} {s : Ls} {w : World} (h : Lk c s w) (a : Option Addr) (cap : Nat) (l : List Ex) (t : Int) (hok : okEL l) (hrow : RowAt w (fun b => b < c.B) a cap l.length (exCells l)) (hin : Ex.InL w (fun b => b < c.B) l) :
    Calls Tryz.prog 162 #[.pointer (some ⟨c.lb, 0, none⟩), .int .u8 t, .slice a l.length cap] w (PostW w (wantK c.ds c.D s.kn t l)) :=
  want_step (Ex.szL l) (contX _) c s w a cap l t (fun e he => by
    obtain ⟨i, hi⟩ := List.mem_iff_getElem?.1 he
    exact Ex.sz_get hi) hok hrow hin h
end Go.Proofs.YtpcdlneompnhlaaGreatDoor.Ty
