/- Walk of code.MayIns. Conditions: the package's table holds its list; the program lies in memory. -/
import Derived.Test.YtiicjbnocpphdaaDoorCdH
namespace Go.Proofs.YtiicjbnocpphdaaDoor.Cd
open Go Go.RowKit Go.Shelf
open Go.Proofs.YtiicjbnocpphdaaDoor.Lx Go.Proofs.YtiicjbnocpphdaaDoor.Tr Go.Proofs.YtiicjbnocpphdaaDoor.Rg
attribute [local go_sem] Oper.semAt_some

theorem mayI_at {p : Pg} {m : Nat} {f : Fn} (hf : p.funs[m]? = some f) (i : Ins) : mayI p m i = mayF p f i := by
  have hm : m < p.funs.length := (List.getElem?_eq_some_iff.1 hf).1
  unfold mayI
  rw [show inP (m : Int) p.funs.length = true by unfold inP; simp; omega, if_pos rfl, Int.toNat_natCast, hf]
theorem mayF_eq (p : Pg) (f : Fn) (i : Ins) : mayF p f i = (knownP i.op && (bareP i && numP p f i && (regsP i).all fun r => inP r f.regs)) := rfl
set_option maxRecDepth 100000 in
set_option maxHeartbeats 4000000 in
theorem mayIns_out (p : Pg) (fn : Int) (i : Ins) (w : World) (h : inP fn p.funs.length = false) :
    Calls Tryd.prog 9 #[p.val, .int .i64 fn, i.val] w fun e w' => e = .returned (.bool (mayI p fn i)) ∧ Below w.heap.size w w' := by
  have hm : mayI p fn i = false := by unfold mayI; rw [h]; rfl
  rw [hm]
  clear hm
  unfold inP at h
  by_cases h0 : fn < 0
  · go_enter Tryd.func9, Tryd.ntmps9
    go_wp2_with fail
    refine ⟨rfl, .bool false, by simp [results, Tryd.results9, go_sem], rfl, ?_⟩
    exact (b_alloc3 _ _ _ _)
  · have h1 : (p.funs.length : Int) ≤ fn := by simp at h; omega
    go_enter Tryd.func9, Tryd.ntmps9
    go_wp2_with fail
    refine ⟨rfl, .bool false, by simp [results, Tryd.results9, go_sem], rfl, ?_⟩
    exact (b_alloc3 _ _ _ _)
set_option maxRecDepth 100000 in
set_option maxHeartbeats 4000000 in
theorem mayIns_unknown (p : Pg) (fn : Int) (i : Ins) (w : World) (hi : U8 i.op) (h0 : 0 ≤ fn) (h1 : fn < p.funs.length) (h : knownP i.op = false) :
    Calls Tryd.prog 9 #[p.val, .int .i64 fn, i.val] w fun e w' => e = .returned (.bool (mayI p fn i)) ∧ Below w.heap.size w w' := by
  have hm : mayI p fn i = false := by
    unfold mayI mayF
    rw [h]
    split
    · split <;> rfl
    · rfl
  rw [hm]
  have hkn := fun W => known_any i.op W hi
  rw [h] at hkn
  clear hm h hi
  replace hkn := Lib.hid hkn
  go_enter Tryd.func9, Tryd.ntmps9
  go_wp2_with fail
  refine (hkn.out _).mono ?_
  rintro e w1 ⟨rfl, hb1⟩
  obtain ⟨hc, hf⟩ := bcell hb1
  have hbb := Lib.hid (b_next3 hb1)
  have hlt : w.heap.size + 2 < w1.heap.size := by have := hb1.size; simp at this; omega
  have hlt1 : w.heap.size + 1 + 1 < w1.heap.size := by omega
  clear hb1
  go_wp2_with fail
  refine ⟨rfl, .bool false, by simp [results, Tryd.results9, go_sem, *], rfl, ?_⟩
  exact hbb.out.setCell (by show w.heap.size ≤ w.heap.size + 1 + 1; omega) _

set_option maxRecDepth 100000 in
set_option maxHeartbeats 8000000 in
theorem mayIns_bare (p : Pg) (m : Nat) (f : Fn) (i : Ins) (w : World) (hf : p.funs[m]? = some f) (hi : U8 i.op) (hT : OpTab w) (hrow : RowAt w (fun _ => True) p.fa p.fcap p.funs.length (fnCells p.funs)) (hk : knownP i.op = true) (hbare : bareP i = false) :
    Calls Tryd.prog 9 #[p.val, .int .i64 m, i.val] w fun e w' => e = .returned (.bool (mayI p m i)) ∧ Below w.heap.size w w' := by
  rw [mayI_at hf, mayF_eq, hk, hbare]
  have hml : m < p.funs.length := (List.getElem?_eq_some_iff.1 hf).1
  obtain ⟨b, off, hfa, _, c0, c1, c2, c3, c4⟩ := fn_row hrow m f hf
  have hbl : b < w.heap.size := World.block_lt_of_cell? _ _ c0
  have hml2 : (m : Int) < p.funs.length := by omega
  have hm0 : (0 : Int) ≤ m := by omega
  have hkn := fun W => known_any i.op W hi
  rw [hk] at hkn
  have hba := fun W (hb : Below w.heap.size w W) => bare_any i W hi (hT.keep hb)
  rw [hbare] at hba
  replace hkn := Lib.hid hkn
  replace hba := Lib.hid hba
  clear hT hk hbare hf hrow
  unfold Pg.val
  rw [hfa]
  go_enter Tryd.func9, Tryd.ntmps9
  go_wp2_with fail
  refine (hkn.out _).mono ?_
  rintro e w1 ⟨rfl, hb1⟩
  obtain ⟨hc, hf⟩ := bcell hb1
  have hbb := Lib.hid (b_next3 hb1)
  have hlt : w.heap.size + 2 < w1.heap.size := by have := hb1.size; simp at this; omega
  have hlt1 : w.heap.size + 1 < w1.heap.size := by omega
  have hlt0 : w.heap.size < w1.heap.size := by omega
  have hbl1 : b < w1.heap.size := by omega
  have d0 := below_in hbb.out c0
  have d1 := below_in hbb.out c1
  have d2 := below_in hbb.out c2
  have d3 := below_in hbb.out c3
  have d4 := below_in hbb.out c4
  clear hb1 c0 c1 c2 c3 c4 hkn
  go_wp2_with fail
  have hbB := Lib.hid (hbb.out.trans ((b_alloc w1 (.cells #[.string f.name, .bool f.thread, .int .i64 f.params, .int .i64 f.regs, .slice f.ca f.code.length f.ccap] 42)).mono hbb.out.size))
  refine (hba.out _ hbB.out).mono ?_
  rintro e w2 ⟨rfl, hb2⟩
  obtain ⟨hc2, hf2⟩ := bcell hb2
  have hlt2 : w1.heap.size < w2.heap.size := by have := hb2.size; simp at this; omega
  have hlu : w.heap.size + 2 < w2.heap.size := by omega
  have hlu1 : w.heap.size + 1 < w2.heap.size := by omega
  have hlu0 : w.heap.size < w2.heap.size := by omega
  have hbb2 := Lib.hid (hbB.out.trans (hb2.mono hbB.out.size))
  clear hb2 hba d0 d1 d2 d3 d4
  go_wp2_with fail
  refine ⟨rfl, .bool false, by simp [results, Tryd.results9, go_sem, *], rfl, ?_⟩
  exact hbb2.out.setCell (by show w.heap.size ≤ w.heap.size + 1 + 1; omega) _
set_option maxRecDepth 100000 in
set_option maxHeartbeats 8000000 in
theorem mayIns_num (p : Pg) (m : Nat) (f : Fn) (i : Ins) (w : World) (hf : p.funs[m]? = some f) (hi : U8 i.op) (hT : OpTab w) (hrow : RowAt w (fun _ => True) p.fa p.fcap p.funs.length (fnCells p.funs)) (hk : knownP i.op = true) (hbare : bareP i = true) (hnum : numP p f i = false) :
    Calls Tryd.prog 9 #[p.val, .int .i64 m, i.val] w fun e w' => e = .returned (.bool (mayI p m i)) ∧ Below w.heap.size w w' := by
  rw [mayI_at hf, mayF_eq, hk, hbare, hnum]
  have hml : m < p.funs.length := (List.getElem?_eq_some_iff.1 hf).1
  obtain ⟨b, off, hfa, _, c0, c1, c2, c3, c4⟩ := fn_row hrow m f hf
  have hbl : b < w.heap.size := World.block_lt_of_cell? _ _ c0
  have hml2 : (m : Int) < p.funs.length := by omega
  have hm0 : (0 : Int) ≤ m := by omega
  have hkn := fun W => known_any i.op W hi
  rw [hk] at hkn
  have hba := fun W (hb : Below w.heap.size w W) => bare_any i W hi (hT.keep hb)
  rw [hbare] at hba
  have hnu := fun W (hb : Below w.heap.size w W) => mayNum_any p f i W hi (hT.keep hb) (hrow.below (Kps.of_below hb))
  rw [hnum] at hnu
  unfold Pg.val at hnu
  rw [hfa] at hnu
  replace hnu := Lib.hid hnu
  replace hkn := Lib.hid hkn
  replace hba := Lib.hid hba
  clear hT hk hbare hnum hf hrow
  unfold Pg.val
  rw [hfa]
  go_enter Tryd.func9, Tryd.ntmps9
  go_wp2_with fail
  refine (hkn.out _).mono ?_
  rintro e w1 ⟨rfl, hb1⟩
  obtain ⟨hc, hf⟩ := bcell hb1
  have hbb := Lib.hid (b_next3 hb1)
  have hlt : w.heap.size + 2 < w1.heap.size := by have := hb1.size; simp at this; omega
  have hlt1 : w.heap.size + 1 < w1.heap.size := by omega
  have hlt0 : w.heap.size < w1.heap.size := by omega
  have hbl1 : b < w1.heap.size := by omega
  have d0 := below_in hbb.out c0
  have d1 := below_in hbb.out c1
  have d2 := below_in hbb.out c2
  have d3 := below_in hbb.out c3
  have d4 := below_in hbb.out c4
  clear hb1 c0 c1 c2 c3 c4 hkn
  go_wp2_with fail
  have hbB := Lib.hid (hbb.out.trans ((b_alloc w1 (.cells #[.string f.name, .bool f.thread, .int .i64 f.params, .int .i64 f.regs, .slice f.ca f.code.length f.ccap] 42)).mono hbb.out.size))
  refine (hba.out _ hbB.out).mono ?_
  rintro e w2 ⟨rfl, hb2⟩
  obtain ⟨hc2, hf2⟩ := bcell hb2
  have hlt2 : w1.heap.size < w2.heap.size := by have := hb2.size; simp at this; omega
  have hlu : w.heap.size + 2 < w2.heap.size := by omega
  have hlu1 : w.heap.size + 1 < w2.heap.size := by omega
  have hlu0 : w.heap.size < w2.heap.size := by omega
  have hbb2 := Lib.hid (hbB.out.trans (hb2.mono hbB.out.size))
  clear hb2 hba d0 d1 d2 d3 d4
  go_wp2_with fail
  refine (hnu.out _ hbb2.out).mono ?_
  rintro e w3 ⟨rfl, hb3⟩
  obtain ⟨hc3, hf3⟩ := bcell hb3
  have hlt3 : w1.heap.size < w3.heap.size := by have := hb3.size; omega
  have hlv : w.heap.size + 2 < w3.heap.size := by omega
  have hlv1 : w.heap.size + 1 < w3.heap.size := by omega
  have hlv0 : w.heap.size < w3.heap.size := by omega
  have hbb3 := Lib.hid (hbb2.out.trans (hb3.mono hbb2.out.size))
  clear hb3 hnu
  go_wp2_with fail
  refine ⟨rfl, .bool false, by simp [results, Tryd.results9, go_sem, *], rfl, ?_⟩
  exact hbb3.out.setCell (by show w.heap.size ≤ w.heap.size + 1 + 1; omega) _
set_option maxRecDepth 100000 in
set_option maxHeartbeats 8000000 in
theorem mayIns_rng (p : Pg) (m : Nat) (f : Fn) (i : Ins) (w : World) (hf : p.funs[m]? = some f) (hi : U8 i.op) (hri : RowAt w (fun _ => True) i.aa i.acap i.args.length (numCells i.args)) (hT : OpTab w) (hrow : RowAt w (fun _ => True) p.fa p.fcap p.funs.length (fnCells p.funs)) (hk : knownP i.op = true) (hbare : bareP i = true) (hnum : numP p f i = true) :
    Calls Tryd.prog 9 #[p.val, .int .i64 m, i.val] w fun e w' => e = .returned (.bool (mayI p m i)) ∧ Below w.heap.size w w' := by
  rw [mayI_at hf, mayF_eq, hk, hbare, hnum]
  have hml : m < p.funs.length := (List.getElem?_eq_some_iff.1 hf).1
  obtain ⟨b, off, hfa, _, c0, c1, c2, c3, c4⟩ := fn_row hrow m f hf
  have hbl : b < w.heap.size := World.block_lt_of_cell? _ _ c0
  have hml2 : (m : Int) < p.funs.length := by omega
  have hm0 : (0 : Int) ≤ m := by omega
  have hkn := fun W => known_any i.op W hi
  rw [hk] at hkn
  have hba := fun W (hb : Below w.heap.size w W) => bare_any i W hi (hT.keep hb)
  rw [hbare] at hba
  have hnu := fun W (hb : Below w.heap.size w W) => mayNum_any p f i W hi (hT.keep hb) (hrow.below (Kps.of_below hb))
  rw [hnum] at hnu
  unfold Pg.val at hnu
  rw [hfa] at hnu
  replace hnu := Lib.hid hnu
  replace hkn := Lib.hid hkn
  replace hba := Lib.hid hba
  have hreg := Lib.hid (fun V => registers_any i V)
  have hits := Lib.hid (fun (V : World) (hb : Below w.heap.size w V) (bx l n : Nat) (J Jx : List Int → World → Prop) (hbx : ∀ j u, i.vals[j]? = some u → V.cell? ⟨bx, j, none⟩ = some u) => registers1_in l n bx i J Jx V hbx (hri.below (Kps.of_below hb)) hi (hT.keep hb))
  clear hri hT hk hbare hnum hf hrow
  unfold Pg.val
  rw [hfa]
  refine (callsIn_wide (n := 2)).1 ?_
  refine callsIn_of_wp_marks Tryd.func9 rfl trivial ?_ rfl
  simp only [Tryd.ntmps9, List.size_toArray, List.length_cons, List.length_nil, Nat.reduceAdd, Nat.reduceSub, Array.replicate_succ, Array.replicate_zero, List.push_toArray, List.append_toArray, List.nil_append, List.cons_append]
  gi_wp2_with fail
  refine ⟨trivial, (callsIn_wide.2 (hkn.out _)).mono ?_⟩
  rintro e w1 ⟨rfl, hb1⟩
  obtain ⟨hc, hf⟩ := bcell hb1
  have hbb := Lib.hid (b_next3 hb1)
  have hlt : w.heap.size + 2 < w1.heap.size := by have := hb1.size; simp at this; omega
  have hlt1 : w.heap.size + 1 < w1.heap.size := by omega
  have hlt0 : w.heap.size < w1.heap.size := by omega
  have hbl1 : b < w1.heap.size := by omega
  have d0 := below_in hbb.out c0
  have d1 := below_in hbb.out c1
  have d2 := below_in hbb.out c2
  have d3 := below_in hbb.out c3
  have d4 := below_in hbb.out c4
  clear hb1 c0 c1 c2 c3 c4 hkn
  gi_wp2_with fail
  have hbB := Lib.hid (hbb.out.trans ((b_alloc w1 (.cells #[.string f.name, .bool f.thread, .int .i64 f.params, .int .i64 f.regs, .slice f.ca f.code.length f.ccap] 42)).mono hbb.out.size))
  refine ⟨trivial, (callsIn_wide.2 (hba.out _ hbB.out)).mono ?_⟩
  rintro e w2 ⟨rfl, hb2⟩
  obtain ⟨hc2, hf2⟩ := bcell hb2
  have hlt2 : w1.heap.size < w2.heap.size := by have := hb2.size; simp at this; omega
  have hlu : w.heap.size + 2 < w2.heap.size := by omega
  have hlu1 : w.heap.size + 1 < w2.heap.size := by omega
  have hlu0 : w.heap.size < w2.heap.size := by omega
  have hbb2 := Lib.hid (hbB.out.trans (hb2.mono hbB.out.size))
  clear hb2 hba d0 d1 d2 d3 d4
  gi_wp2_with fail
  refine ⟨trivial, (callsIn_wide.2 (hnu.out _ hbb2.out)).mono ?_⟩
  rintro e w3 ⟨rfl, hb3⟩
  obtain ⟨hc3, hf3⟩ := bcell hb3
  have hlt3 : w1.heap.size < w3.heap.size := by have := hb3.size; omega
  have hlv : w.heap.size + 2 < w3.heap.size := by omega
  have hlv1 : w.heap.size + 1 < w3.heap.size := by omega
  have hlv0 : w.heap.size < w3.heap.size := by omega
  have hbb3 := Lib.hid (hbb2.out.trans (hb3.mono hbb2.out.size))
  clear hb3 hnu
  gi_wp2_with fail
  refine ⟨trivial, (callsIn_wide.2 (hreg.out _)).mono ?_⟩
  rintro e w4 ⟨rfl, rfl⟩
  gi_wp2_with fail
  have k6 : Cel w (w.heap.size + 1 + 1) (.bool false) w3 := ⟨by go_simp, by go_simp⟩
  have k7 : w3.cell? ⟨w1.heap.size, 3, none⟩ = some (.int .i64 f.regs) := by go_simp
  generalize hw5 : w3.alloc (.cells ⟨i.vals⟩ 31) = w5
  have hb5 : Below w3.heap.size w3 w5 := by rw [← hw5]; exact b_alloc _ _
  have hs5 : w5.heap.size = w3.heap.size + 1 := by rw [← hw5]; simp
  have hbx5 : ∀ j u, i.vals[j]? = some u → w5.cell? ⟨w3.heap.size, j, none⟩ = some u := by rw [← hw5]; exact box_new w3 i.vals _
  have hbw5 := Lib.hid (hbb3.out.trans (hb5.mono hbb3.out.size))
  replace k6 := k6.below hb5
  replace k7 := below_in hb5 k7
  clear hw5 hb5 hc3 hf3 hc2 hf2 hc hf hbb3 hbb2 hbB hbb
  refine range_lawB (α := Int) rfl rfl (gf := 48) (lb := #[.pointer (some ⟨w3.heap.size, 0, none⟩)]) rfl trivial (enters_of Tryd.func48 (by kernel_rfl) rfl) (encs := fun x => #[.int .i64 x]) (fun _ => rfl) (fun _ _ => True) (Kps (fun _ => True)) (fun xs => xs = regsP i) (fun pre => pre <+: regsP i) (regsP i).length
    (fun pre W => pre.all (fun r => inP r f.regs) = true ∧ Cel w (w.heap.size + 1 + 1) (.bool false) W ∧ W.cell? ⟨w1.heap.size, 3, none⟩ = some (.int .i64 f.regs) ∧ Below w.heap.size w W ∧ w5.heap.size ≤ W.heap.size)
    (fun pre W => pre.all (fun r => inP r f.regs) = false ∧ Cel w (w.heap.size + 1 + 1) (.bool false) W ∧ Below w.heap.size w W ∧ w5.heap.size ≤ W.heap.size)
    (fun l J Jx W hsz hb hY hJb hJI hJ0 => hits.out W (hbw5.out.trans (hb.mono hbw5.out.size)) w3.heap.size l (2 - 1) J Jx (fun j u hu => below_in hb (hbx5 j u hu)) (fun m pre x W1 h hl => hY m pre x W1 h trivial hl) hJb hJ0)
    (fun h k => h.trans k) (fun h => ceq_kps h.toCeq)
    ⟨fun pre W W' h hq hb => ⟨h.1, h.2.1.ceq hq.toCeq, (hq.cell _).trans h.2.2.1, h.2.2.2.1.trans (hb.mono (by omega)), by have := h.2.2.2.2; rw [hq.size]; exact this⟩, fun pre W W' h hs hb => ⟨h.1, h.2.1.below hb, below_in hb h.2.2.1, h.2.2.2.1.trans (hb.mono h.2.2.2.1.size), Nat.le_trans h.2.2.2.2 hb.size⟩⟩
    ⟨fun pre W W' h hq hb => ⟨h.1, h.2.1.ceq hq.toCeq, h.2.2.1.trans (hb.mono (by omega)), by have := h.2.2.2; rw [hq.size]; exact this⟩, fun pre W W' h hs hb => ⟨h.1, h.2.1.below hb, h.2.2.1.trans (hb.mono h.2.2.1.size), Nat.le_trans h.2.2.2 hb.size⟩⟩
    (fun _ _ h => h.2.2.2.2) ⟨rfl, k6, k7, hbw5.out, Nat.le_refl _⟩ ?round ?done ?stop
  case round =>
    rintro l m' pre x W ⟨hp, hk6, hk7, hbW, hsz⟩ _ _
    gi_wp2
    refine ⟨keeps_below (Below.refl _ _), Kps.refl _ _, fun W2 hq hb => ?_⟩
    have a6 := hk6.ceq hq.toCeq
    have e6 := a6.cell
    have f6 := a6.frozen
    have e7 := (hq.cell _).trans hk7
    have hbW2 := Lib.hid (hbW.trans (hb.mono (by omega)))
    have hsz2 : w5.heap.size ≤ W2.heap.size := by rw [hq.size]; exact hsz
    replace hp := Lib.hid hp
    replace a6 := Lib.hid a6
    clear hq hb hk6 hk7 hbx5 hits
    by_cases h1 : 0 ≤ x
    · by_cases h2 : x < f.regs
      · have hin : Hid (inP x f.regs = true) := Lib.hid (by unfold inP; simp [h1, h2])
        gi_wp2_with fail
        refine ⟨keeps_below (Below.refl _ _), Kps.refl _ _, ?_, a6.out, e7, hbW2.out, hsz2⟩
        rw [List.all_append, hp.out]; simp [hin.out]
      · have hin : Hid (inP x f.regs = false) := Lib.hid (by unfold inP; simp; omega)
        gi_wp2_with fail
        exact ⟨(KeepsOthers.setCell _ _ _).from _, ⟨x, by simp, hin.out⟩, a6.out.setS _, hbW2.out.setCell (by show w.heap.size ≤ w.heap.size + 1 + 1; omega) _, by simp [World.setCell]; omega⟩
    · have hin : Hid (inP x f.regs = false) := Lib.hid (by unfold inP; simp; omega)
      gi_wp2_with fail
      exact ⟨(KeepsOthers.setCell _ _ _).from _, ⟨x, by simp, hin.out⟩, a6.out.setS _, hbW2.out.setCell (by show w.heap.size ≤ w.heap.size + 1 + 1; omega) _, by simp [World.setCell]; omega⟩
  case done =>
    rintro D xs W hD rfl ⟨hp, hk6, hk7, hbW, hsz⟩ hK
    have a1 := hk6.cell
    have a2 := hk6.frozen
    have hlw : w.heap.size + 1 + 1 < W.heap.size := World.block_lt_of_cell? _ _ a1
    gi_wp2
    have hK' : (W.setCell ⟨w.heap.size + 1 + 1, 0, none⟩ (.bool true)).heap[D]? = some (.deferred (some [])) := (Below.heap_setCell _ _ _ _ (by simp; omega)).trans hK
    refine ⟨by simp, .inl ⟨_, _, rfl, run_takeDeferred hK', ?_⟩⟩
    have hc5 := ((hk6.setS (.bool true)).ceq (ceq_deferred (d' := none) hK')).cell
    refine ⟨.bool true, ?_, by rw [hp]; rfl, (hbW.setCell (by show w.heap.size ≤ w.heap.size + 1 + 1; omega) _).trans (below_put _ _ (by omega))⟩
    simp [results, Tryd.results9, go_sem, hc5]
  case stop =>
    rintro D pre W hD hpre ⟨hp, hk6, hbW, hsz⟩ hK
    gi_wp2
    refine ⟨by simp, .inl ⟨_, _, rfl, run_takeDeferred hK, ?_⟩⟩
    have hc5 := (hk6.ceq (ceq_deferred (d' := none) hK)).cell
    have hT : (regsP i).all (fun r => inP r f.regs) = false := by
      obtain ⟨r, hr⟩ := hpre
      rw [← hr, List.all_append, hp]; rfl
    refine ⟨.bool false, ?_, by rw [hT]; rfl, hbW.trans (below_put _ _ (by omega))⟩
    simp [results, Tryd.results9, go_sem, hc5]
/-- code.MayIns -/
theorem mayIns_any (p : Pg) (fn : Int) (i : Ins) (w : World) (hi : U8 i.op) (hri : RowAt w (fun _ => True) i.aa i.acap i.args.length (numCells i.args)) (hT : OpTab w) (hrow : RowAt w (fun _ => True) p.fa p.fcap p.funs.length (fnCells p.funs)) :
    Calls Tryd.prog 9 #[p.val, .int .i64 fn, i.val] w fun e w' => e = .returned (.bool (mayI p fn i)) ∧ Below w.heap.size w w' := by
  cases hin : inP fn p.funs.length
  · exact mayIns_out p fn i w hin
  · have h2 : 0 ≤ fn ∧ fn < p.funs.length := by simpa [inP] using hin
    cases hk : knownP i.op
    · exact mayIns_unknown p fn i w hi h2.1 h2.2 hk
    · obtain ⟨m, rfl⟩ : ∃ m : Nat, fn = m := ⟨fn.toNat, by omega⟩
      obtain ⟨f, hf⟩ : ∃ f, p.funs[m]? = some f := ⟨p.funs[m]'(by omega), by simp⟩
      cases hbare : bareP i
      · exact mayIns_bare p m f i w hf hi hT hrow hk hbare
      · cases hnum : numP p f i
        · exact mayIns_num p m f i w hf hi hT hrow hk hbare hnum
        · exact mayIns_rng p m f i w hf hi hri hT hrow hk hbare hnum
end Go.Proofs.YtiicjbnocpphdaaDoor.Cd
