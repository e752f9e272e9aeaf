/- Plain theory for the document's May: ways over blocks without instructions, step by step. Conditions: none. Walk of the document's May. Conditions: the graph lies in memory; Args are of bounded length. -/
import Derived.Test.YtckmgefailclcaaDoorJaP
import Derived.Test.YtckmgefailclcaaDoorJGrC
namespace Go.Proofs.YtckmgefailclcaaDoor.Fw
open Go Go.RowKit
open Go.Proofs.YtckmgefailclcaaDoor.Lx Go.Proofs.YtckmgefailclcaaDoor.Tr Go.Proofs.YtckmgefailclcaaDoor.Cd

def itN (l : List Bk) (k : Nat) : Nat → Nat
  | 0 => k
  | s + 1 => nxt l (itN l k s)
theorem itN_add (l : List Bk) (k i s : Nat) : itN l (itN l k i) s = itN l k (i + s) := by
  induction s with
  | zero => rfl
  | succ s ih => rw [itN, ih]; rfl
theorem lead_it {l : List Bk} {k : Nat} : ∀ s, (∀ i, i < s + 1 → bareB l (itN l k i) = true) → Lead l k (itN l k (s + 1))
  | 0, h => .one k (h 0 (by omega))
  | s + 1, h => (lead_it s (fun i hi => h i (by omega))).snoc (h (s + 1) (by omega))
def NoRet (l : List Bk) (k n : Nat) : Prop := ∀ s, 1 ≤ s → s ≤ n → (∀ i, i < s → bareB l (itN l k i) = true) → itN l k s ≠ k
theorem pigeon : ∀ (n : Nat) (f : Nat → Nat), (∀ i, i ≤ n → f i < n) → ∃ i j, i < j ∧ j ≤ n ∧ f i = f j
  | 0, f, h => by have := h 0 (by omega); omega
  | n + 1, f, h => by
    by_cases hc : ∃ i, i ≤ n ∧ f i = f (n + 1)
    · obtain ⟨i, hi, e⟩ := hc
      exact ⟨i, n + 1, by omega, by omega, e⟩
    · have hc' : ∀ i, i ≤ n → f i ≠ f (n + 1) := fun i hi e => hc ⟨i, hi, e⟩
      have hl := h (n + 1) (by omega)
      obtain ⟨i, j, h1, h2, h3⟩ := pigeon n (fun i => if f i = n then f (n + 1) else f i) (fun i hi => by
        have h4 := h i (by omega)
        have h5 := hc' i hi
        show (if f i = n then f (n + 1) else f i) < n
        split <;> omega)
      refine ⟨i, j, h1, by omega, ?_⟩
      have h4 := hc' i (by omega)
      have h5 := hc' j (by omega)
      split at h3 <;> split at h3 <;> omega
theorem out_noRet {l : List Bk} (hn : ∀ k, k < l.length → bareB l k = true → nxt l k < l.length) (h : ∀ k, k < l.length → NoRet l k l.length) : ∀ k, k < l.length → Out l k := by
  intro x hx
  apply Classical.byContradiction
  intro ho
  have hall : ∀ i, itN l x i < l.length ∧ ¬ Out l (itN l x i) := by
    intro i
    induction i with
    | zero => exact ⟨hx, ho⟩
    | succ i ih =>
      have hb : bareB l (itN l x i) = true := by
        cases hb : bareB l (itN l x i)
        · exact absurd (.here _ hb) ih.2
        · rfl
      exact ⟨hn _ ih.1 hb, fun o => ih.2 (.on _ hb o)⟩
  have hbare : ∀ i, bareB l (itN l x i) = true := by
    intro i
    cases hb : bareB l (itN l x i)
    · exact absurd (.here _ hb) (hall i).2
    · rfl
  obtain ⟨i, j, h1, h2, h3⟩ := pigeon l.length (fun i => itN l x i) (fun i _ => (hall i).1)
  refine h (itN l x i) (hall i).1 (j - i) (by omega) (by omega) (fun m _ => ?_) ?_
  · rw [itN_add]; exact hbare _
  · rw [itN_add, show i + (j - i) = j by omega]
    exact h3.symm
/-! the blocks, one by one -/
def blkF (N : Nat) (regs : Int) : Nat → List Bk → Bool
  | _, [] => true
  | k, b :: r => blkD N k regs b && blkF N regs (k + 1) r
theorem blkF_app (N : Nat) (regs : Int) (l r : List Bk) (k : Nat) : blkF N regs k (l ++ r) = (blkF N regs k l && blkF N regs (k + l.length) r) := by
  induction l generalizing k with
  | nil => simp [blkF]
  | cons f l ih => rw [List.cons_append, blkF, blkF, ih (k + 1), Bool.and_assoc, List.length_cons, show k + 1 + l.length = k + (l.length + 1) by omega]
theorem blkF_take {N : Nat} {regs : Int} {l : List Bk} {k : Nat} {x : Bk} (h : l[k]? = some x) : blkF N regs 0 (l.take (k + 1)) = (blkF N regs 0 (l.take k) && blkD N k regs x) := by
  have hk : k < l.length := (List.getElem?_eq_some_iff.1 h).1
  rw [List.take_add_one, h, blkF_app]
  have : (l.take k).length = k := by rw [List.length_take]; omega
  rw [this]
  simp [blkF]
theorem blkF_no {N : Nat} {regs : Int} {l : List Bk} {k : Nat} {x : Bk} (h : l[k]? = some x) (hx : blkD N k regs x = false) : blkF N regs 0 l = false := by
  have e : l = l.take (k + 1) ++ l.drop (k + 1) := (List.take_append_drop _ _).symm
  rw [e, blkF_app, blkF_take h, hx]
  simp
theorem blkF_eq (N : Nat) (regs : Int) (l : List Bk) (k : Nat) : blkF N regs k l = (codesP regs l && (l.all (endsB N) && phisF regs k l)) := by
  induction l generalizing k with
  | nil => rfl
  | cons b r ih =>
    have hp : phisF regs k (b :: r) = (phisB regs k b && phisF regs (k + 1) r) := rfl
    have hc : codesP regs (b :: r) = (b.code.all (mayA regs) && codesP regs r) := by unfold codesP; rw [List.all_cons]
    rw [blkF, ih (k + 1), hp, hc, List.all_cons]
    unfold blkD
    cases (b.code.all (mayA regs)) <;> cases (endsB N b) <;> cases (phisB regs k b) <;> simp
theorem mayG_eq (g : Gr) : mayG g = (headG g && (blkF g.blocks.length g.regs 0 g.blocks && (firstOk g.blocks && (fromsOk g.blocks && outP g.blocks)))) := by
  have h1 : mayG g = (headG g && (g.blocks.all (endsB g.blocks.length) && ((fromsOk g.blocks && (firstOk g.blocks && outP g.blocks)) && (phisF g.regs 0 g.blocks && codesP g.regs g.blocks)))) := rfl
  rw [h1, blkF_eq]
  cases headG g <;> cases (g.blocks.all (endsB g.blocks.length)) <;> cases (fromsOk g.blocks) <;> cases (firstOk g.blocks) <;> cases (outP g.blocks) <;> cases (phisF g.regs 0 g.blocks) <;> cases (codesP g.regs g.blocks) <;> rfl
theorem blkF_ends {N : Nat} {regs : Int} {l : List Bk} (h : blkF N regs 0 l = true) : l.all (endsB N) = true := by
  rw [blkF_eq] at h
  simp only [Bool.and_eq_true] at h
  exact h.2.1
theorem nxt_lt {l : List Bk} {n : Nat} (h : l.all (endsB n) = true) (hn : n = l.length) : ∀ k, k < l.length → bareB l k = true → nxt l k < l.length := by
  intro k hk hb
  obtain ⟨x, hx⟩ : ∃ x, l[k]? = some x := ⟨_, List.getElem?_eq_getElem hk⟩
  have hm := List.mem_of_getElem? hx
  rw [bare_at hx] at hb
  have h0 := ends_ne h x hm (by simpa using hb)
  obtain ⟨y, hy⟩ : ∃ y, x.tt[0]? = some y := ⟨_, List.getElem?_eq_getElem h0⟩
  have hr := ends_to h x hm y (List.mem_of_getElem? hy)
  obtain ⟨m, rfl⟩ : ∃ m : Nat, y = m := ⟨y.toNat, by omega⟩
  rw [nxt_at hx hy]
  omega
end Go.Proofs.YtckmgefailclcaaDoor.Fw
set_option linter.unusedSimpArgs false
set_option linter.unusedVariables false
namespace Go.Proofs.YtckmgefailclcaaDoor.Fw
open Go Go.RowKit
open Go.Proofs.YtckmgefailclcaaDoor.Lx Go.Proofs.YtckmgefailclcaaDoor.Tr Go.Proofs.YtckmgefailclcaaDoor.Cd
open Go.Proofs.YtckmgefailclcaaDoor.Vq Go.Proofs.YtckmgefailclcaaDoor.Qr
open Go.Proofs.YtckmgefailclcaaDoor.Qg (run_call2)

def VFs (l : List Int) (v : Value) (w : World) : Prop := ∃ a c, v = .slice a l.length c ∧ RowAt w Tt a c l.length (numCells l)
theorem VFs.mono {l : List Int} : Mono (VFs l) := fun _ _ _ hb ⟨a, c, h, h2⟩ => ⟨a, c, h, h2.below (Kps.of_below hb)⟩
theorem fl_g4 {V : World} {b : Nat} : (Instr.fieldAt 37 (.pointer (some ⟨b, 0, none⟩)) 4).run Tryd.prog V = .ok (.pointer (some ⟨b, 4, none⟩)) V := by go_simp
theorem fl_k2 {V : World} {b o : Nat} : (Instr.fieldAt 42 (.pointer (some ⟨b, o, none⟩)) 2).run Tryd.prog V = .ok (.pointer (some ⟨b, o + 2, none⟩)) V := by go_simp
theorem ld_blks {V : World} {b o : Nat} {a : Option Addr} {n c : Nat} (h : V.cell? ⟨b, o, none⟩ = some (.slice a n c)) : (Instr.loadAt 35 (.pointer (some ⟨b, o, none⟩))).run Tryd.prog V = .ok (.slice a n c) V := by go_simp
theorem ix_blk {V : World} {b off n cap k : Nat} (h : (k : Int) < (n : Int)) : (Instr.indexAt 35 (.slice (some ⟨b, off, none⟩) n cap) (.int .i64 k)).run Tryd.prog V = .ok (.pointer (some ⟨b, off + k * 4, none⟩)) V := by go_simp

def rmtrue (k b off bx : Nat) (x : Bk) (g : Gr) : List (Value → World → Prop) :=
  [VK (.pointer (some ⟨bx, 4, none⟩)), VK (.slice (some ⟨b, off, none⟩) g.blocks.length g.bcap), VK (.int .i64 k), VK (.pointer (some ⟨b, off + k * 4, none⟩)), VK (.pointer (some ⟨b, off + k * 4 + 2, none⟩)), VK (.slice x.fa x.fm.length x.fcap), VK (.pointer (some ⟨bx, 4, none⟩)), VK (.slice (some ⟨b, off, none⟩) g.blocks.length g.bcap), VK (.int .i64 k), VFs (fromsP g.blocks k), VK (.bool true), VK (.bool false)]
theorem rmtrue_mono {k b off bx : Nat} {x : Bk} {g : Gr} : MonoL (rmtrue k b off bx x g) := ⟨VK.mono, VK.mono, VK.mono, VK.mono, VK.mono, VK.mono, VK.mono, VK.mono, VK.mono, VFs.mono, VK.mono, VK.mono, trivial⟩

def rmfalse (k b off bx : Nat) (x : Bk) (g : Gr) : List (Value → World → Prop) :=
  [VK (.pointer (some ⟨bx, 4, none⟩)), VK (.slice (some ⟨b, off, none⟩) g.blocks.length g.bcap), VK (.int .i64 k), VK (.pointer (some ⟨b, off + k * 4, none⟩)), VK (.pointer (some ⟨b, off + k * 4 + 2, none⟩)), VK (.slice x.fa x.fm.length x.fcap), VK (.pointer (some ⟨bx, 4, none⟩)), VK (.slice (some ⟨b, off, none⟩) g.blocks.length g.bcap), VK (.int .i64 k), VFs (fromsP g.blocks k), VK (.bool false), VK (.bool true)]
theorem rmfalse_mono {k b off bx : Nat} {x : Bk} {g : Gr} : MonoL (rmfalse k b off bx x g) := ⟨VK.mono, VK.mono, VK.mono, VK.mono, VK.mono, VK.mono, VK.mono, VK.mono, VK.mono, VFs.mono, VK.mono, VK.mono, trivial⟩

set_option maxHeartbeats 16000000 in
set_option maxRecDepth 100000 in
theorem rmay_c (g : Gr) (w : World) (hg : Gr.In w g) (hs : Shrt g.blocks) :
    Calls Tryd.prog 12 #[.agg ⟨g.vals⟩] w fun e w' => e = .returned (.bool (mayG g)) ∧ Below w.heap.size w w' := by
  obtain ⟨hc1, hc2⟩ := len_i hg.row
  have hm := Lib.hid (mayG_eq g)
  have hst := Lib.hid (b_alloc w (.cells #[.string g.name, .bool g.thread, .int .i64 g.params, .int .i64 g.regs, .slice g.ba g.blocks.length g.bcap] 37))
  have hq := Lib.hid (box5 w g)
  have hX := Lib.hid (fun (x : Bk) V (hx : x ∈ g.blocks) (hv : Below w.heap.size w V) => (hg.keep hv).blocks x hx)
  have hR := Lib.hid (fun V (hv : Below w.heap.size w V) => (hg.keep hv).row)
  have hBk := Lib.hid (fun (k : Nat) (x : Bk) V (hx : g.blocks[k]? = some x) (hv : Below w.heap.size w V) => rblock_c g.blocks k x g.regs g.ba g.bcap V hx ((hg.keep hv).row) ((hg.keep hv).blocks x (List.mem_of_getElem? hx)) (hs x (List.mem_of_getElem? hx)))
  have hFm := Lib.hid (fun (n : Int) V (hl : g.blocks.length ≤ 8796093022208) (hv : Below w.heap.size w V) => rfroms_c g.blocks n g.ba g.bcap V ((hg.keep hv).row) ((hg.keep hv).blocks) hl)
  have hbw : Hid (∀ V, Below (w.alloc (.cells #[.string g.name, .bool g.thread, .int .i64 g.params, .int .i64 g.regs, .slice g.ba g.blocks.length g.bcap] 37)).heap.size (w.alloc (.cells #[.string g.name, .bool g.thread, .int .i64 g.params, .int .i64 g.regs, .slice g.ba g.blocks.length g.bcap] 37)) V → V.cell? ⟨w.heap.size, 3, none⟩ = some (.int .i64 g.regs) ∧ V.cell? ⟨w.heap.size, 4, none⟩ = some (.slice g.ba g.blocks.length g.bcap)) := Lib.hid (fun V hv => by
    obtain ⟨q0, q1, q2, q3, q4⟩ := hq.out
    exact ⟨below_in hv q3, below_in hv q4⟩)
  clear hg hs hq
  have hgv : Value.agg ⟨g.vals⟩ = .agg #[.string g.name, .bool g.thread, .int .i64 g.params, .int .i64 g.regs, .slice g.ba g.blocks.length g.bcap] := rfl
  rw [hgv]
  clear hgv
  have hhead : Hid (headG g = (decide (0 ≤ g.params) && (decide (g.params ≤ if g.thread then 0 else 8) && (decide (g.params ≤ g.regs) && (decide (g.regs ≤ 65536) && (decide (1 ≤ g.blocks.length) && decide (g.blocks.length ≤ 32768))))))) := Lib.hid rfl
  generalize hth : g.thread = th at hst hbw hhead ⊢
  clear hth
  generalize hpr : g.params = pr at hst hbw hhead ⊢
  clear hpr
  by_cases h0 : pr < 0
  · cases th
    · have hf : Hid (headG g = false) := Lib.hid (by rw [hhead.out]; simp; omega)
      clear hhead hX hR hBk hFm hbw
      go_enter Tryd.func12, Tryd.ntmps12
      go_wp2_with fail
      go_ret
      exact ⟨ret_bool (by rw [hm.out, hf.out]; rfl), hst.out⟩
    · have hf : Hid (headG g = false) := Lib.hid (by rw [hhead.out]; simp; omega)
      clear hhead hX hR hBk hFm hbw
      go_enter Tryd.func12, Tryd.ntmps12
      go_wp2_with fail
      go_ret
      exact ⟨ret_bool (by rw [hm.out, hf.out]; rfl), hst.out⟩
  · by_cases h1 : 8 < pr
    · cases th
      · have hf : Hid (headG g = false) := Lib.hid (by rw [hhead.out]; simp; omega)
        clear hhead hX hR hBk hFm hbw
        go_enter Tryd.func12, Tryd.ntmps12
        go_wp2_with fail
        go_ret
        exact ⟨ret_bool (by rw [hm.out, hf.out]; rfl), hst.out⟩
      · have hf : Hid (headG g = false) := Lib.hid (by rw [hhead.out]; simp; omega)
        clear hhead hX hR hBk hFm hbw
        go_enter Tryd.func12, Tryd.ntmps12
        go_wp2_with fail
        go_ret
        exact ⟨ret_bool (by rw [hm.out, hf.out]; rfl), hst.out⟩
    · cases th
      · by_cases h3 : g.regs < pr
        · have hf : Hid (headG g = false) := Lib.hid (by rw [hhead.out]; simp; omega)
          clear hhead hX hR hBk hFm hbw
          go_enter Tryd.func12, Tryd.ntmps12
          go_wp2_with fail
          go_ret
          exact ⟨ret_bool (by rw [hm.out, hf.out]; rfl), hst.out⟩
        · by_cases h4 : 65536 < g.regs
          · have hf : Hid (headG g = false) := Lib.hid (by rw [hhead.out]; simp; omega)
            clear hhead hX hR hBk hFm hbw
            go_enter Tryd.func12, Tryd.ntmps12
            go_wp2_with fail
            go_ret
            exact ⟨ret_bool (by rw [hm.out, hf.out]; rfl), hst.out⟩
          · by_cases h5 : (g.blocks.length : Int) < 1
            · have hf : Hid (headG g = false) := Lib.hid (by rw [hhead.out]; simp; omega)
              clear hhead hX hR hBk hFm hbw
              go_enter Tryd.func12, Tryd.ntmps12
              go_wp2_with fail
              go_ret
              exact ⟨ret_bool (by rw [hm.out, hf.out]; rfl), hst.out⟩
            · by_cases h6 : 32768 < (g.blocks.length : Int)
              · have hf : Hid (headG g = false) := Lib.hid (by rw [hhead.out]; simp; omega)
                clear hhead hX hR hBk hFm hbw
                go_enter Tryd.func12, Tryd.ntmps12
                go_wp2_with fail
                go_ret
                exact ⟨ret_bool (by rw [hm.out, hf.out]; rfl), hst.out⟩
              · have hf : Hid (headG g = true) := Lib.hid (by rw [hhead.out]; simp; omega)
                have hl : g.blocks.length ≤ 8796093022208 := by omega
                obtain ⟨b, off, ha, hjunk⟩ := bk_row (hR.out w (Below.refl _ _)) 0 _ (List.getElem?_eq_getElem (by omega))
                clear hjunk hhead
                rw [ha] at hR hBk hFm hbw hst
                rw [ha]
                clear ha
                go_enter Tryd.func12, Tryd.ntmps12
                go_upto_region 4 with fail
                generalize hW0 : w.alloc _ = W0 at hst hbw ⊢
                have hlw : w.heap.size < W0.heap.size := World.block_lt_of_cell? _ _ (hbw.out W0 (Below.refl _ _)).1
                clear hW0
                have hbox := hbw
                clear hbw
                go_wp2_with fail
                go_loopw [4] (fun i wr => ∃ k : Nat, k ≤ g.blocks.length ∧ i = .int .i64 k ∧ Hid (blkF g.blocks.length g.regs 0 (g.blocks.take k) = true) ∧ Hid (Below W0.heap.size W0 wr)) (fun i _ => g.blocks.length - (intOf i).toNat)
                case atStart => exact ⟨0, Nat.zero_le _, rfl, Lib.hid rfl, Lib.hid (Below.refl _ _)⟩
                case round =>
                  obtain ⟨k, hk, rfl, hall, hb⟩ := hrel
                  have g1 := Lib.hid (hst.out.trans (hb.out.mono hst.out.size))
                  obtain ⟨q3, q4⟩ := hbox.out wr hb.out
                  by_cases hlt : k < g.blocks.length
                  · obtain ⟨x, hx⟩ : ∃ x, g.blocks[k]? = some x := ⟨_, List.getElem?_eq_getElem hlt⟩
                    have hk1 : (k : Int) < (g.blocks.length : Int) := by omega
                    have hc := hBk.out k x wr hx g1.out
                    have hno := Lib.hid (fun h => blkF_no (N := g.blocks.length) (regs := g.regs) hx h)
                    have hyes := Lib.hid (blkF_take (N := g.blocks.length) (regs := g.regs) hx)
                    clear hx
                    cases hv : blkD g.blocks.length k g.regs x
                    · rw [hv] at hc
                      replace hc := Lib.hid hc
                      have hfin := Lib.hid (hno.out hv)
                      clear hv hno hyes hall hX hR hBk hFm
                      go_wp2_with fail
                      refine hc.out.mono ?_
                      rintro e w2 ⟨rfl, hb2⟩
                      have g2 := Lib.hid (g1.out.trans (hb2.mono g1.out.size))
                      clear hb2
                      go_wp2_with fail
                      go_ret
                      exact ⟨ret_bool (by rw [hm.out, hfin.out]; simp), g2.out⟩
                    · rw [hv] at hc
                      replace hc := Lib.hid hc
                      have hn : Hid (blkF g.blocks.length g.regs 0 (g.blocks.take (k + 1)) = true) := Lib.hid (by rw [hyes.out, hall.out, hv]; rfl)
                      clear hv hno hyes hall
                      go_wp2_with fail
                      refine hc.out.mono ?_
                      rintro e w2 ⟨rfl, hb2⟩
                      have g2 := Lib.hid (hb.out.trans (hb2.mono hb.out.size))
                      clear hb2
                      go_wp2_with fail
                      go_roundw
                      case rel => exact ⟨k + 1, by omega, by go_num, hn, g2⟩
                      case measure => simp [intOf]; omega
                  · have hkn : k = g.blocks.length := by omega
                    subst hkn
                    rw [List.take_length] at hall
                    have hblk := hall
                    have hends := Lib.hid (blkF_ends hblk.out)
                    have hlast1 : ¬ (g.blocks.length : Int) < (g.blocks.length : Int) := by omega
                    obtain ⟨x0, hx0⟩ : ∃ x, g.blocks[0]? = some x := ⟨_, List.getElem?_eq_getElem (by omega)⟩
                    obtain ⟨b3, off3, ha, _, c0, c1, c2, c3⟩ := bk_row (hR.out wr g1.out) 0 x0 hx0
                    cases ha
                    rw [Nat.zero_mul, Nat.add_zero] at c2
                    obtain ⟨cf1, cf2⟩ := len_i (hX.out x0 wr (List.mem_of_getElem? hx0) g1.out).frow
                    have hfi := Lib.hid (first_at hx0)
                    have hpos0 : 0 < g.blocks.length := by omega
                    clear hx0 hall c0 c1 c3 hBk
                    by_cases hz : x0.fm.length = 0
                    · have hfi2 : Hid (firstOk g.blocks = true) := Lib.hid (by rw [hfi.out, hz]; rfl)
                      rw [hz] at c2
                      clear hfi hz
                      go_wp2_with fail
                      go_loopw [5] (fun i wr => ∃ k : Nat, k ≤ g.blocks.length ∧ i = .int .i64 k ∧ Hid (((List.range g.blocks.length).take k).all (fromOk g.blocks) = true) ∧ Hid (∀ i, i < k → NoRet g.blocks i g.blocks.length) ∧ Hid (Below W0.heap.size W0 wr)) (fun i _ => g.blocks.length - (intOf i).toNat)
                      case atStart => exact ⟨0, Nat.zero_le _, rfl, Lib.hid rfl, Lib.hid (fun i hi => by omega), hb⟩
                      case round =>
                        clear g1 hb c2 q3 q4
                        obtain ⟨k, hk, rfl, hall, hnr, hb⟩ := hrel
                        have g1 := Lib.hid (hst.out.trans (hb.out.mono hst.out.size))
                        obtain ⟨q3, q4⟩ := hbox.out wr hb.out
                        by_cases hlt : k < g.blocks.length
                        · obtain ⟨x, hx⟩ : ∃ x, g.blocks[k]? = some x := ⟨_, List.getElem?_eq_getElem hlt⟩
                          obtain ⟨b3, off3, ha, _, c0, c1, c2, c3⟩ := bk_row (hR.out wr g1.out) k x hx
                          cases ha
                          have hk1 : (k : Int) < (g.blocks.length : Int) := by omega
                          have hxm := List.mem_of_getElem? hx
                          have hrk : (List.range g.blocks.length)[k]? = some k := by simp [hlt]
                          have hno := Lib.hid (fun h => all_no (f := fromOk g.blocks) hrk h)
                          have hyes := Lib.hid (all_take (f := fromOk g.blocks) hrk)
                          have hfk := Lib.hid (fromOk_at hx)
                          have hK : Hid (∀ V, Below wr.heap.size wr V → V.cell? ⟨w.heap.size, 4, none⟩ = some (.slice (some ⟨b, off, none⟩) g.blocks.length g.bcap) ∧ V.cell? ⟨b, off + k * 4 + 2, none⟩ = some (.slice x.fa x.fm.length x.fcap)) := Lib.hid (fun V hv => ⟨below_in hv q4, below_in hv c2⟩)
                          have hFr := Lib.hid (fun V (hv : Below wr.heap.size wr V) => hFm.out k V hl (g1.out.trans (hv.mono g1.out.size)))
                          have hIn := Lib.hid (fun (a : Option Addr) (c : Nat) V (hv : Below wr.heap.size wr V) h => rints_c x.fm (fromsP g.blocks k) x.fa a x.fcap c V ((hX.out x V hxm (g1.out.trans (hv.mono g1.out.size))).frow) h)
                          clear hx hxm hrk c0 c1 c2 c3
                          cases hv : decide (x.fm = fromsP g.blocks k)
                          · rw [hv] at hIn
                            have hfin : Hid (fromsOk g.blocks = false) := Lib.hid (hno.out (by rw [hfk.out, hv]))
                            clear hv hfk hno hyes hall hnr hX hR hFm
                            go_upto_region 14 with fail
                            refine wp_region_rel (C := fun V => Below wr.heap.size wr V) (E := Ext) (R := fun i => (rmfalse k b off w.heap.size x g).getD i VT) (by kernel_rfl) ((Below.refl _ _).drew) (by kernel_rfl) (fun i v w' w'' _ hE h => mono_get _ i rmfalse_mono v w' w'' hE h) (steps_all ?hs) ?hend
                            case hs =>
                              refine stepsL_cons (s_val fun a w5 hC hs => ?_) ?_
                              · skip
                                have hvx := old_of hs 1 (by kernel_rfl) (by rfl)
                                exact ⟨wanted_none rfl, _, run_fa rfl (ev hvx) fl_g4, rfl⟩
                              refine stepsL_cons (s_val fun a w5 hC hs => ?_) ?_
                              · skip
                                obtain ⟨vx, hvx, hRx⟩ := got_of hs 0 72 (by kernel_rfl) (by rfl)
                                replace hRx : vx = _ := hRx
                                subst hRx
                                exact ⟨wanted_none rfl, _, run_ld rfl (ev hvx) (ld_blks (hK.out w5 hC).1), rfl⟩
                              refine stepsL_cons (s_val fun a w5 hC hs => ?_) ?_
                              · skip
                                have hvx := old_of hs 5 (by kernel_rfl) (by rfl)
                                exact ⟨wanted_none rfl, _, run_mv (.inl rfl) (ev hvx), rfl⟩
                              refine stepsL_cons (s_val fun a w5 hC hs => ?_) ?_
                              · skip
                                obtain ⟨vx, hvx, hRx⟩ := got_of hs 1 73 (by kernel_rfl) (by rfl)
                                replace hRx : vx = _ := hRx
                                subst hRx
                                obtain ⟨vy, hvy, hRy⟩ := got_of hs 2 74 (by kernel_rfl) (by rfl)
                                replace hRy : vy = _ := hRy
                                subst hRy
                                exact ⟨wanted_none rfl, _, run_ix rfl (ev hvx) (ev hvy) (ix_blk hk1), rfl⟩
                              refine stepsL_cons (s_val fun a w5 hC hs => ?_) ?_
                              · skip
                                obtain ⟨vx, hvx, hRx⟩ := got_of hs 3 75 (by kernel_rfl) (by rfl)
                                replace hRx : vx = _ := hRx
                                subst hRx
                                exact ⟨wanted_none rfl, _, run_fa rfl (ev hvx) fl_k2, rfl⟩
                              refine stepsL_cons (s_val fun a w5 hC hs => ?_) ?_
                              · skip
                                obtain ⟨vx, hvx, hRx⟩ := got_of hs 4 76 (by kernel_rfl) (by rfl)
                                replace hRx : vx = _ := hRx
                                subst hRx
                                exact ⟨wanted_none rfl, _, run_ld rfl (ev hvx) (ld_ints (hK.out w5 hC).2), rfl⟩
                              refine stepsL_cons (s_val fun a w5 hC hs => ?_) ?_
                              · skip
                                have hvx := old_of hs 1 (by kernel_rfl) (by rfl)
                                exact ⟨wanted_none rfl, _, run_fa rfl (ev hvx) fl_g4, rfl⟩
                              refine stepsL_cons (s_val fun a w5 hC hs => ?_) ?_
                              · skip
                                obtain ⟨vx, hvx, hRx⟩ := got_of hs 6 78 (by kernel_rfl) (by rfl)
                                replace hRx : vx = _ := hRx
                                subst hRx
                                exact ⟨wanted_none rfl, _, run_ld rfl (ev hvx) (ld_blks (hK.out w5 hC).1), rfl⟩
                              refine stepsL_cons (s_val fun a w5 hC hs => ?_) ?_
                              · skip
                                have hvx := old_of hs 5 (by kernel_rfl) (by rfl)
                                exact ⟨wanted_none rfl, _, run_mv (.inl rfl) (ev hvx), rfl⟩
                              refine stepsL_cons (s_call fun a w5 hC hs => ?_) ?_
                              · skip
                                obtain ⟨vx, hvx, hRx⟩ := got_of hs 7 79 (by kernel_rfl) (by rfl)
                                replace hRx : vx = _ := hRx
                                subst hRx
                                obtain ⟨vy, hvy, hRy⟩ := got_of hs 8 80 (by kernel_rfl) (by rfl)
                                replace hRy : vy = _ := hRy
                                subst hRy
                                refine ⟨wanted_none rfl, 33, _, run_call2 rfl (ev hvx) (ev hvy) (fun _ _ => rfl), (hFr.out w5 hC).mono (fun e w' ⟨v, he, ho, hb⟩ => ⟨v, he, hC.trans (hb.mono hC.size), hb, ?_⟩)⟩
                                obtain ⟨a7, c7, rfl, hr7⟩ := row_own1 ho
                                exact ⟨a7, c7, rfl, hr7⟩
                              refine stepsL_cons (s_call fun a w5 hC hs => ?_) ?_
                              · skip
                                obtain ⟨vx, hvx, hRx⟩ := got_of hs 5 77 (by kernel_rfl) (by rfl)
                                replace hRx : vx = _ := hRx
                                subst hRx
                                obtain ⟨vy, hvy, hRy⟩ := got_of hs 9 81 (by kernel_rfl) (by rfl)
                                obtain ⟨ay, cy, rfl, hry⟩ := hRy
                                exact ⟨wanted_none rfl, 32, _, run_call2 rfl (ev hvx) (ev hvy) (fun _ _ => rfl), (hIn.out ay cy w5 hC hry).mono (fun e w' ⟨he, hb⟩ => ⟨_, he, hC.trans (hb.mono hC.size), hb, rfl⟩)⟩
                              refine stepsL_cons (s_val fun a w5 hC hs => ?_) ?_
                              · skip
                                obtain ⟨vx, hvx, hRx⟩ := got_of hs 10 82 (by kernel_rfl) (by rfl)
                                replace hRx : vx = _ := hRx
                                subst hRx
                                exact ⟨wanted_none rfl, _, run_notB rfl (ev hvx), rfl⟩
                              exact stepsL_nil
                            case hend =>
                              intro σ V4 hC4 hR4
                              generalize hF : fillL _ _ _ _ _ = F
                              simp [fillL, dstOf, List.range, List.range.loop, Act.put] at hF
                              subst hF
                              have h11 : σ 11 = .bool true := hR4 11 (by simp)
                              rw [h11]
                              have g4 := Lib.hid (g1.out.trans (hC4.mono g1.out.size))
                              have g5 := Lib.hid (hb.out.trans (hC4.mono hb.out.size))
                              clear hR4 hC4 h11 hK hFr hIn
                              go_wp2_with fail
                              go_ret
                              exact ⟨ret_bool (by rw [hm.out, hfin.out]; simp), g4.out⟩
                          · rw [hv] at hIn
                            have hn2 : Hid (((List.range g.blocks.length).take (k + 1)).all (fromOk g.blocks) = true) := Lib.hid (by rw [hyes.out, hall.out, hfk.out, hv]; rfl)
                            clear hv hfk hno hyes hall
                            go_upto_region 14 with fail
                            refine wp_region_rel (C := fun V => Below wr.heap.size wr V) (E := Ext) (R := fun i => (rmtrue k b off w.heap.size x g).getD i VT) (by kernel_rfl) ((Below.refl _ _).drew) (by kernel_rfl) (fun i v w' w'' _ hE h => mono_get _ i rmtrue_mono v w' w'' hE h) (steps_all ?hs) ?hend
                            case hs =>
                              refine stepsL_cons (s_val fun a w5 hC hs => ?_) ?_
                              · skip
                                have hvx := old_of hs 1 (by kernel_rfl) (by rfl)
                                exact ⟨wanted_none rfl, _, run_fa rfl (ev hvx) fl_g4, rfl⟩
                              refine stepsL_cons (s_val fun a w5 hC hs => ?_) ?_
                              · skip
                                obtain ⟨vx, hvx, hRx⟩ := got_of hs 0 72 (by kernel_rfl) (by rfl)
                                replace hRx : vx = _ := hRx
                                subst hRx
                                exact ⟨wanted_none rfl, _, run_ld rfl (ev hvx) (ld_blks (hK.out w5 hC).1), rfl⟩
                              refine stepsL_cons (s_val fun a w5 hC hs => ?_) ?_
                              · skip
                                have hvx := old_of hs 5 (by kernel_rfl) (by rfl)
                                exact ⟨wanted_none rfl, _, run_mv (.inl rfl) (ev hvx), rfl⟩
                              refine stepsL_cons (s_val fun a w5 hC hs => ?_) ?_
                              · skip
                                obtain ⟨vx, hvx, hRx⟩ := got_of hs 1 73 (by kernel_rfl) (by rfl)
                                replace hRx : vx = _ := hRx
                                subst hRx
                                obtain ⟨vy, hvy, hRy⟩ := got_of hs 2 74 (by kernel_rfl) (by rfl)
                                replace hRy : vy = _ := hRy
                                subst hRy
                                exact ⟨wanted_none rfl, _, run_ix rfl (ev hvx) (ev hvy) (ix_blk hk1), rfl⟩
                              refine stepsL_cons (s_val fun a w5 hC hs => ?_) ?_
                              · skip
                                obtain ⟨vx, hvx, hRx⟩ := got_of hs 3 75 (by kernel_rfl) (by rfl)
                                replace hRx : vx = _ := hRx
                                subst hRx
                                exact ⟨wanted_none rfl, _, run_fa rfl (ev hvx) fl_k2, rfl⟩
                              refine stepsL_cons (s_val fun a w5 hC hs => ?_) ?_
                              · skip
                                obtain ⟨vx, hvx, hRx⟩ := got_of hs 4 76 (by kernel_rfl) (by rfl)
                                replace hRx : vx = _ := hRx
                                subst hRx
                                exact ⟨wanted_none rfl, _, run_ld rfl (ev hvx) (ld_ints (hK.out w5 hC).2), rfl⟩
                              refine stepsL_cons (s_val fun a w5 hC hs => ?_) ?_
                              · skip
                                have hvx := old_of hs 1 (by kernel_rfl) (by rfl)
                                exact ⟨wanted_none rfl, _, run_fa rfl (ev hvx) fl_g4, rfl⟩
                              refine stepsL_cons (s_val fun a w5 hC hs => ?_) ?_
                              · skip
                                obtain ⟨vx, hvx, hRx⟩ := got_of hs 6 78 (by kernel_rfl) (by rfl)
                                replace hRx : vx = _ := hRx
                                subst hRx
                                exact ⟨wanted_none rfl, _, run_ld rfl (ev hvx) (ld_blks (hK.out w5 hC).1), rfl⟩
                              refine stepsL_cons (s_val fun a w5 hC hs => ?_) ?_
                              · skip
                                have hvx := old_of hs 5 (by kernel_rfl) (by rfl)
                                exact ⟨wanted_none rfl, _, run_mv (.inl rfl) (ev hvx), rfl⟩
                              refine stepsL_cons (s_call fun a w5 hC hs => ?_) ?_
                              · skip
                                obtain ⟨vx, hvx, hRx⟩ := got_of hs 7 79 (by kernel_rfl) (by rfl)
                                replace hRx : vx = _ := hRx
                                subst hRx
                                obtain ⟨vy, hvy, hRy⟩ := got_of hs 8 80 (by kernel_rfl) (by rfl)
                                replace hRy : vy = _ := hRy
                                subst hRy
                                refine ⟨wanted_none rfl, 33, _, run_call2 rfl (ev hvx) (ev hvy) (fun _ _ => rfl), (hFr.out w5 hC).mono (fun e w' ⟨v, he, ho, hb⟩ => ⟨v, he, hC.trans (hb.mono hC.size), hb, ?_⟩)⟩
                                obtain ⟨a7, c7, rfl, hr7⟩ := row_own1 ho
                                exact ⟨a7, c7, rfl, hr7⟩
                              refine stepsL_cons (s_call fun a w5 hC hs => ?_) ?_
                              · skip
                                obtain ⟨vx, hvx, hRx⟩ := got_of hs 5 77 (by kernel_rfl) (by rfl)
                                replace hRx : vx = _ := hRx
                                subst hRx
                                obtain ⟨vy, hvy, hRy⟩ := got_of hs 9 81 (by kernel_rfl) (by rfl)
                                obtain ⟨ay, cy, rfl, hry⟩ := hRy
                                exact ⟨wanted_none rfl, 32, _, run_call2 rfl (ev hvx) (ev hvy) (fun _ _ => rfl), (hIn.out ay cy w5 hC hry).mono (fun e w' ⟨he, hb⟩ => ⟨_, he, hC.trans (hb.mono hC.size), hb, rfl⟩)⟩
                              refine stepsL_cons (s_val fun a w5 hC hs => ?_) ?_
                              · skip
                                obtain ⟨vx, hvx, hRx⟩ := got_of hs 10 82 (by kernel_rfl) (by rfl)
                                replace hRx : vx = _ := hRx
                                subst hRx
                                exact ⟨wanted_none rfl, _, run_notB rfl (ev hvx), rfl⟩
                              exact stepsL_nil
                            case hend =>
                              intro σ V4 hC4 hR4
                              generalize hF : fillL _ _ _ _ _ = F
                              simp [fillL, dstOf, List.range, List.range.loop, Act.put] at hF
                              subst hF
                              have h11 : σ 11 = .bool false := hR4 11 (by simp)
                              rw [h11]
                              have g4 := Lib.hid (g1.out.trans (hC4.mono g1.out.size))
                              have g5 := Lib.hid (hb.out.trans (hC4.mono hb.out.size))
                              clear hR4 hC4 h11 hK hFr hIn
                              clear g1 hb q3 q4
                              obtain ⟨q3, q4⟩ := hbox.out V4 g5.out
                              go_wp2_with fail
                              go_loopw [6, 7] (fun a s wq => ∃ n m : Nat, a = .int .i64 m ∧ s = .int .i64 n ∧ n ≤ g.blocks.length ∧ m < g.blocks.length ∧ Hid (m = itN g.blocks k n) ∧ Hid (∀ i, i < n → bareB g.blocks (itN g.blocks k i) = true) ∧ Hid (∀ s, 1 ≤ s → s ≤ n → itN g.blocks k s ≠ k) ∧ wq = V4) (fun _ s _ => g.blocks.length - (intOf s).toNat)
                              case atStart => exact ⟨0, k, rfl, rfl, Nat.zero_le _, hlt, Lib.hid rfl, Lib.hid (fun i hi => by omega), Lib.hid (fun s h1 h2 => by omega), rfl⟩
                              case round =>
                                obtain ⟨n, m, rfl, rfl, hn, hml, hme, hbare, hne, rfl⟩ := hrel
                                have hm1 : (m : Int) < (g.blocks.length : Int) := by omega
                                by_cases hnt : n < g.blocks.length
                                · have hn1 : (n : Int) < (g.blocks.length : Int) := by omega
                                  obtain ⟨y, hy⟩ : ∃ y, g.blocks[m]? = some y := ⟨_, List.getElem?_eq_getElem hml⟩
                                  obtain ⟨b3, off3, ha, _, c0, c1, c2, c3⟩ := bk_row (hR.out _ g4.out) m y hy
                                  cases ha
                                  have hym := List.mem_of_getElem? hy
                                  obtain ⟨cy1, cy2⟩ := len_i (hX.out y _ hym g4.out).crow
                                  have hbr := Lib.hid (bare_at hy)
                                  by_cases h0 : y.code.length = 0
                                  · have hbt : Hid (bareB g.blocks m = true) := Lib.hid (by rw [hbr.out, h0]; rfl)
                                    have htl := ends_ne hends.out y hym h0
                                    obtain ⟨z, hz⟩ : ∃ z, y.tt[0]? = some z := ⟨_, List.getElem?_eq_getElem htl⟩
                                    have hzr := ends_to hends.out y hym z (List.mem_of_getElem? hz)
                                    obtain ⟨p, rfl⟩ : ∃ p : Nat, z = p := ⟨z.toNat, by omega⟩
                                    have hpl : p < g.blocks.length := by omega
                                    have hnx := Lib.hid (nxt_at hy hz)
                                    have hrt := (hX.out y _ hym g4.out).trow
                                    obtain ⟨tt1, tt2⟩ := len_i hrt
                                    obtain ⟨b', off', ha', _, d0⟩ := num_row hrt 0 _ hz
                                    rw [ha'] at c3
                                    rw [Nat.add_zero] at d0
                                    rw [h0] at c1
                                    have hit : Hid (itN g.blocks k (n + 1) = p) := Lib.hid (by rw [itN, ← hme.out, hnx.out])
                                    have hbare2 : Hid (∀ i, i < n + 1 → bareB g.blocks (itN g.blocks k i) = true) := Lib.hid (fun i hi => by
                                      rcases Nat.lt_or_ge i n with h | h
                                      · exact hbare.out i h
                                      · rw [show i = n by omega, ← hme.out]; exact hbt.out)
                                    replace h0 := Lib.hid h0
                                    have htl0 : (0 : Int) < (y.tt.length : Int) := by omega
                                    clear hy hym hrt ha' hz hzr hbr cy1 cy2 hnx hbt hbare
                                    by_cases hpk : p = k
                                    · have hpk1 : ((p : Int) == (k : Int)) = true := by simp [hpk]
                                      have hfin : Hid (outP g.blocks = false) := Lib.hid (by
                                        have h := lead_it n hbare2.out
                                        rw [hit.out, hpk] at h
                                        exact out_no hlt h)
                                      clear hpk hne hme hit hbare2
                                      go_wp2_with fail
                                      go_ret
                                      exact ⟨ret_bool (by rw [hm.out, hfin.out]; simp), g4.out⟩
                                    · have hpk1 : ((p : Int) == (k : Int)) = false := ne_b (by omega)
                                      have hne2 : Hid (∀ s, 1 ≤ s → s ≤ n + 1 → itN g.blocks k s ≠ k) := Lib.hid (fun s h1 h2 => by
                                        rcases Nat.lt_or_ge n s with h | h
                                        · rw [show s = n + 1 by omega, hit.out]; exact hpk
                                        · exact hne.out s h1 h)
                                      have hit2 : Hid (p = itN g.blocks k (n + 1)) := Lib.hid hit.out.symm
                                      clear hpk hne hme hit
                                      go_wp2_with fail
                                      go_roundw
                                      case rel => exact ⟨n + 1, p, rfl, by go_num, by omega, hpl, hit2, hbare2, hne2, by first | rfl | trivial⟩
                                      case measure => simp [intOf]; omega
                                  · have hbt : Hid (bareB g.blocks m = false) := Lib.hid (by rw [hbr.out]; simp [h0])
                                    have hne0 : ((y.code.length : Int) == 0) = false := ne_b (by omega)
                                    have hnr2 : Hid (∀ i, i < k + 1 → NoRet g.blocks i g.blocks.length) := Lib.hid (fun i hi => by
                                      rcases Nat.lt_or_ge i k with h | h
                                      · exact hnr.out i h
                                      · rw [show i = k by omega]
                                        intro s h1 h2 h3
                                        rcases Nat.lt_or_ge n s with h4 | h4
                                        · have := h3 n h4
                                          rw [← hme.out, hbt.out] at this
                                          cases this
                                        · exact hne.out s h1 h4)
                                    clear hy hym hbr h0 hne hme hbare hnr
                                    go_wp2_with fail
                                    go_roundw
                                    case rel => exact ⟨k + 1, by omega, by go_num, hn2, hnr2, g5⟩
                                    case measure => simp [intOf]; omega
                                · have hnr2 : Hid (∀ i, i < k + 1 → NoRet g.blocks i g.blocks.length) := Lib.hid (fun i hi => by
                                    rcases Nat.lt_or_ge i k with h | h
                                    · exact hnr.out i h
                                    · rw [show i = k by omega]
                                      intro s h1 h2 _
                                      exact hne.out s h1 (by omega))
                                  have hn1 : ¬ (n : Int) < (g.blocks.length : Int) := by omega
                                  clear hne hme hbare hnr
                                  go_wp2_with fail
                                  go_roundw
                                  case rel => exact ⟨k + 1, by omega, by go_num, hn2, hnr2, g5⟩
                                  case measure => simp [intOf]; omega
                        · have hkn : k = g.blocks.length := by omega
                          have hfos : Hid (fromsOk g.blocks = true) := Lib.hid (by
                            have := hall.out
                            rw [List.take_of_length_le (by simp; omega)] at this
                            exact this)
                          have hout : Hid (outP g.blocks = true) := Lib.hid (out_yes (out_noRet (nxt_lt hends.out rfl) (fun i hi => hnr.out i (by omega))))
                          have hlast2 : ¬ (k : Int) < (g.blocks.length : Int) := by omega
                          clear hall hnr hX hR hFm hends hkn
                          go_wp2_with fail
                          go_ret
                          exact ⟨ret_bool (by rw [hm.out, hf.out, hblk.out, hfi2.out, hfos.out, hout.out]; rfl), g1.out⟩
                    · have hfi2 : Hid (firstOk g.blocks = false) := Lib.hid (by rw [hfi.out]; simp [hz])
                      have hz2 : (0 : Int) < (x0.fm.length : Int) := by omega
                      clear hfi hz hX hR hFm
                      go_wp2_with fail
                      go_ret
                      exact ⟨ret_bool (by rw [hm.out, hfi2.out]; simp), g1.out⟩
      · by_cases h2 : pr = 0
        · subst h2
          by_cases h3 : g.regs < 0
          · have hf : Hid (headG g = false) := Lib.hid (by rw [hhead.out]; simp; omega)
            clear hhead hX hR hBk hFm hbw
            go_enter Tryd.func12, Tryd.ntmps12
            go_wp2_with fail
            go_ret
            exact ⟨ret_bool (by rw [hm.out, hf.out]; rfl), hst.out⟩
          · by_cases h4 : 65536 < g.regs
            · have hf : Hid (headG g = false) := Lib.hid (by rw [hhead.out]; simp; omega)
              clear hhead hX hR hBk hFm hbw
              go_enter Tryd.func12, Tryd.ntmps12
              go_wp2_with fail
              go_ret
              exact ⟨ret_bool (by rw [hm.out, hf.out]; rfl), hst.out⟩
            · by_cases h5 : (g.blocks.length : Int) < 1
              · have hf : Hid (headG g = false) := Lib.hid (by rw [hhead.out]; simp; omega)
                clear hhead hX hR hBk hFm hbw
                go_enter Tryd.func12, Tryd.ntmps12
                go_wp2_with fail
                go_ret
                exact ⟨ret_bool (by rw [hm.out, hf.out]; rfl), hst.out⟩
              · by_cases h6 : 32768 < (g.blocks.length : Int)
                · have hf : Hid (headG g = false) := Lib.hid (by rw [hhead.out]; simp; omega)
                  clear hhead hX hR hBk hFm hbw
                  go_enter Tryd.func12, Tryd.ntmps12
                  go_wp2_with fail
                  go_ret
                  exact ⟨ret_bool (by rw [hm.out, hf.out]; rfl), hst.out⟩
                · have hf : Hid (headG g = true) := Lib.hid (by rw [hhead.out]; simp; omega)
                  have hl : g.blocks.length ≤ 8796093022208 := by omega
                  obtain ⟨b, off, ha, hjunk⟩ := bk_row (hR.out w (Below.refl _ _)) 0 _ (List.getElem?_eq_getElem (by omega))
                  clear hjunk hhead
                  rw [ha] at hR hBk hFm hbw hst
                  rw [ha]
                  clear ha
                  go_enter Tryd.func12, Tryd.ntmps12
                  go_upto_region 4 with fail
                  generalize hW0 : w.alloc _ = W0 at hst hbw ⊢
                  have hlw : w.heap.size < W0.heap.size := World.block_lt_of_cell? _ _ (hbw.out W0 (Below.refl _ _)).1
                  clear hW0
                  have hbox := hbw
                  clear hbw
                  go_wp2_with fail
                  go_loopw [4] (fun i wr => ∃ k : Nat, k ≤ g.blocks.length ∧ i = .int .i64 k ∧ Hid (blkF g.blocks.length g.regs 0 (g.blocks.take k) = true) ∧ Hid (Below W0.heap.size W0 wr)) (fun i _ => g.blocks.length - (intOf i).toNat)
                  case atStart => exact ⟨0, Nat.zero_le _, rfl, Lib.hid rfl, Lib.hid (Below.refl _ _)⟩
                  case round =>
                    obtain ⟨k, hk, rfl, hall, hb⟩ := hrel
                    have g1 := Lib.hid (hst.out.trans (hb.out.mono hst.out.size))
                    obtain ⟨q3, q4⟩ := hbox.out wr hb.out
                    by_cases hlt : k < g.blocks.length
                    · obtain ⟨x, hx⟩ : ∃ x, g.blocks[k]? = some x := ⟨_, List.getElem?_eq_getElem hlt⟩
                      have hk1 : (k : Int) < (g.blocks.length : Int) := by omega
                      have hc := hBk.out k x wr hx g1.out
                      have hno := Lib.hid (fun h => blkF_no (N := g.blocks.length) (regs := g.regs) hx h)
                      have hyes := Lib.hid (blkF_take (N := g.blocks.length) (regs := g.regs) hx)
                      clear hx
                      cases hv : blkD g.blocks.length k g.regs x
                      · rw [hv] at hc
                        replace hc := Lib.hid hc
                        have hfin := Lib.hid (hno.out hv)
                        clear hv hno hyes hall hX hR hBk hFm
                        go_wp2_with fail
                        refine hc.out.mono ?_
                        rintro e w2 ⟨rfl, hb2⟩
                        have g2 := Lib.hid (g1.out.trans (hb2.mono g1.out.size))
                        clear hb2
                        go_wp2_with fail
                        go_ret
                        exact ⟨ret_bool (by rw [hm.out, hfin.out]; simp), g2.out⟩
                      · rw [hv] at hc
                        replace hc := Lib.hid hc
                        have hn : Hid (blkF g.blocks.length g.regs 0 (g.blocks.take (k + 1)) = true) := Lib.hid (by rw [hyes.out, hall.out, hv]; rfl)
                        clear hv hno hyes hall
                        go_wp2_with fail
                        refine hc.out.mono ?_
                        rintro e w2 ⟨rfl, hb2⟩
                        have g2 := Lib.hid (hb.out.trans (hb2.mono hb.out.size))
                        clear hb2
                        go_wp2_with fail
                        go_roundw
                        case rel => exact ⟨k + 1, by omega, by go_num, hn, g2⟩
                        case measure => simp [intOf]; omega
                    · have hkn : k = g.blocks.length := by omega
                      subst hkn
                      rw [List.take_length] at hall
                      have hblk := hall
                      have hends := Lib.hid (blkF_ends hblk.out)
                      have hlast1 : ¬ (g.blocks.length : Int) < (g.blocks.length : Int) := by omega
                      obtain ⟨x0, hx0⟩ : ∃ x, g.blocks[0]? = some x := ⟨_, List.getElem?_eq_getElem (by omega)⟩
                      obtain ⟨b3, off3, ha, _, c0, c1, c2, c3⟩ := bk_row (hR.out wr g1.out) 0 x0 hx0
                      cases ha
                      rw [Nat.zero_mul, Nat.add_zero] at c2
                      obtain ⟨cf1, cf2⟩ := len_i (hX.out x0 wr (List.mem_of_getElem? hx0) g1.out).frow
                      have hfi := Lib.hid (first_at hx0)
                      have hpos0 : 0 < g.blocks.length := by omega
                      clear hx0 hall c0 c1 c3 hBk
                      by_cases hz : x0.fm.length = 0
                      · have hfi2 : Hid (firstOk g.blocks = true) := Lib.hid (by rw [hfi.out, hz]; rfl)
                        rw [hz] at c2
                        clear hfi hz
                        go_wp2_with fail
                        go_loopw [5] (fun i wr => ∃ k : Nat, k ≤ g.blocks.length ∧ i = .int .i64 k ∧ Hid (((List.range g.blocks.length).take k).all (fromOk g.blocks) = true) ∧ Hid (∀ i, i < k → NoRet g.blocks i g.blocks.length) ∧ Hid (Below W0.heap.size W0 wr)) (fun i _ => g.blocks.length - (intOf i).toNat)
                        case atStart => exact ⟨0, Nat.zero_le _, rfl, Lib.hid rfl, Lib.hid (fun i hi => by omega), hb⟩
                        case round =>
                          clear g1 hb c2 q3 q4
                          obtain ⟨k, hk, rfl, hall, hnr, hb⟩ := hrel
                          have g1 := Lib.hid (hst.out.trans (hb.out.mono hst.out.size))
                          obtain ⟨q3, q4⟩ := hbox.out wr hb.out
                          by_cases hlt : k < g.blocks.length
                          · obtain ⟨x, hx⟩ : ∃ x, g.blocks[k]? = some x := ⟨_, List.getElem?_eq_getElem hlt⟩
                            obtain ⟨b3, off3, ha, _, c0, c1, c2, c3⟩ := bk_row (hR.out wr g1.out) k x hx
                            cases ha
                            have hk1 : (k : Int) < (g.blocks.length : Int) := by omega
                            have hxm := List.mem_of_getElem? hx
                            have hrk : (List.range g.blocks.length)[k]? = some k := by simp [hlt]
                            have hno := Lib.hid (fun h => all_no (f := fromOk g.blocks) hrk h)
                            have hyes := Lib.hid (all_take (f := fromOk g.blocks) hrk)
                            have hfk := Lib.hid (fromOk_at hx)
                            have hK : Hid (∀ V, Below wr.heap.size wr V → V.cell? ⟨w.heap.size, 4, none⟩ = some (.slice (some ⟨b, off, none⟩) g.blocks.length g.bcap) ∧ V.cell? ⟨b, off + k * 4 + 2, none⟩ = some (.slice x.fa x.fm.length x.fcap)) := Lib.hid (fun V hv => ⟨below_in hv q4, below_in hv c2⟩)
                            have hFr := Lib.hid (fun V (hv : Below wr.heap.size wr V) => hFm.out k V hl (g1.out.trans (hv.mono g1.out.size)))
                            have hIn := Lib.hid (fun (a : Option Addr) (c : Nat) V (hv : Below wr.heap.size wr V) h => rints_c x.fm (fromsP g.blocks k) x.fa a x.fcap c V ((hX.out x V hxm (g1.out.trans (hv.mono g1.out.size))).frow) h)
                            clear hx hxm hrk c0 c1 c2 c3
                            cases hv : decide (x.fm = fromsP g.blocks k)
                            · rw [hv] at hIn
                              have hfin : Hid (fromsOk g.blocks = false) := Lib.hid (hno.out (by rw [hfk.out, hv]))
                              clear hv hfk hno hyes hall hnr hX hR hFm
                              go_upto_region 14 with fail
                              refine wp_region_rel (C := fun V => Below wr.heap.size wr V) (E := Ext) (R := fun i => (rmfalse k b off w.heap.size x g).getD i VT) (by kernel_rfl) ((Below.refl _ _).drew) (by kernel_rfl) (fun i v w' w'' _ hE h => mono_get _ i rmfalse_mono v w' w'' hE h) (steps_all ?hs) ?hend
                              case hs =>
                                refine stepsL_cons (s_val fun a w5 hC hs => ?_) ?_
                                · skip
                                  have hvx := old_of hs 1 (by kernel_rfl) (by rfl)
                                  exact ⟨wanted_none rfl, _, run_fa rfl (ev hvx) fl_g4, rfl⟩
                                refine stepsL_cons (s_val fun a w5 hC hs => ?_) ?_
                                · skip
                                  obtain ⟨vx, hvx, hRx⟩ := got_of hs 0 72 (by kernel_rfl) (by rfl)
                                  replace hRx : vx = _ := hRx
                                  subst hRx
                                  exact ⟨wanted_none rfl, _, run_ld rfl (ev hvx) (ld_blks (hK.out w5 hC).1), rfl⟩
                                refine stepsL_cons (s_val fun a w5 hC hs => ?_) ?_
                                · skip
                                  have hvx := old_of hs 5 (by kernel_rfl) (by rfl)
                                  exact ⟨wanted_none rfl, _, run_mv (.inl rfl) (ev hvx), rfl⟩
                                refine stepsL_cons (s_val fun a w5 hC hs => ?_) ?_
                                · skip
                                  obtain ⟨vx, hvx, hRx⟩ := got_of hs 1 73 (by kernel_rfl) (by rfl)
                                  replace hRx : vx = _ := hRx
                                  subst hRx
                                  obtain ⟨vy, hvy, hRy⟩ := got_of hs 2 74 (by kernel_rfl) (by rfl)
                                  replace hRy : vy = _ := hRy
                                  subst hRy
                                  exact ⟨wanted_none rfl, _, run_ix rfl (ev hvx) (ev hvy) (ix_blk hk1), rfl⟩
                                refine stepsL_cons (s_val fun a w5 hC hs => ?_) ?_
                                · skip
                                  obtain ⟨vx, hvx, hRx⟩ := got_of hs 3 75 (by kernel_rfl) (by rfl)
                                  replace hRx : vx = _ := hRx
                                  subst hRx
                                  exact ⟨wanted_none rfl, _, run_fa rfl (ev hvx) fl_k2, rfl⟩
                                refine stepsL_cons (s_val fun a w5 hC hs => ?_) ?_
                                · skip
                                  obtain ⟨vx, hvx, hRx⟩ := got_of hs 4 76 (by kernel_rfl) (by rfl)
                                  replace hRx : vx = _ := hRx
                                  subst hRx
                                  exact ⟨wanted_none rfl, _, run_ld rfl (ev hvx) (ld_ints (hK.out w5 hC).2), rfl⟩
                                refine stepsL_cons (s_val fun a w5 hC hs => ?_) ?_
                                · skip
                                  have hvx := old_of hs 1 (by kernel_rfl) (by rfl)
                                  exact ⟨wanted_none rfl, _, run_fa rfl (ev hvx) fl_g4, rfl⟩
                                refine stepsL_cons (s_val fun a w5 hC hs => ?_) ?_
                                · skip
                                  obtain ⟨vx, hvx, hRx⟩ := got_of hs 6 78 (by kernel_rfl) (by rfl)
                                  replace hRx : vx = _ := hRx
                                  subst hRx
                                  exact ⟨wanted_none rfl, _, run_ld rfl (ev hvx) (ld_blks (hK.out w5 hC).1), rfl⟩
                                refine stepsL_cons (s_val fun a w5 hC hs => ?_) ?_
                                · skip
                                  have hvx := old_of hs 5 (by kernel_rfl) (by rfl)
                                  exact ⟨wanted_none rfl, _, run_mv (.inl rfl) (ev hvx), rfl⟩
                                refine stepsL_cons (s_call fun a w5 hC hs => ?_) ?_
                                · skip
                                  obtain ⟨vx, hvx, hRx⟩ := got_of hs 7 79 (by kernel_rfl) (by rfl)
                                  replace hRx : vx = _ := hRx
                                  subst hRx
                                  obtain ⟨vy, hvy, hRy⟩ := got_of hs 8 80 (by kernel_rfl) (by rfl)
                                  replace hRy : vy = _ := hRy
                                  subst hRy
                                  refine ⟨wanted_none rfl, 33, _, run_call2 rfl (ev hvx) (ev hvy) (fun _ _ => rfl), (hFr.out w5 hC).mono (fun e w' ⟨v, he, ho, hb⟩ => ⟨v, he, hC.trans (hb.mono hC.size), hb, ?_⟩)⟩
                                  obtain ⟨a7, c7, rfl, hr7⟩ := row_own1 ho
                                  exact ⟨a7, c7, rfl, hr7⟩
                                refine stepsL_cons (s_call fun a w5 hC hs => ?_) ?_
                                · skip
                                  obtain ⟨vx, hvx, hRx⟩ := got_of hs 5 77 (by kernel_rfl) (by rfl)
                                  replace hRx : vx = _ := hRx
                                  subst hRx
                                  obtain ⟨vy, hvy, hRy⟩ := got_of hs 9 81 (by kernel_rfl) (by rfl)
                                  obtain ⟨ay, cy, rfl, hry⟩ := hRy
                                  exact ⟨wanted_none rfl, 32, _, run_call2 rfl (ev hvx) (ev hvy) (fun _ _ => rfl), (hIn.out ay cy w5 hC hry).mono (fun e w' ⟨he, hb⟩ => ⟨_, he, hC.trans (hb.mono hC.size), hb, rfl⟩)⟩
                                refine stepsL_cons (s_val fun a w5 hC hs => ?_) ?_
                                · skip
                                  obtain ⟨vx, hvx, hRx⟩ := got_of hs 10 82 (by kernel_rfl) (by rfl)
                                  replace hRx : vx = _ := hRx
                                  subst hRx
                                  exact ⟨wanted_none rfl, _, run_notB rfl (ev hvx), rfl⟩
                                exact stepsL_nil
                              case hend =>
                                intro σ V4 hC4 hR4
                                generalize hF : fillL _ _ _ _ _ = F
                                simp [fillL, dstOf, List.range, List.range.loop, Act.put] at hF
                                subst hF
                                have h11 : σ 11 = .bool true := hR4 11 (by simp)
                                rw [h11]
                                have g4 := Lib.hid (g1.out.trans (hC4.mono g1.out.size))
                                have g5 := Lib.hid (hb.out.trans (hC4.mono hb.out.size))
                                clear hR4 hC4 h11 hK hFr hIn
                                go_wp2_with fail
                                go_ret
                                exact ⟨ret_bool (by rw [hm.out, hfin.out]; simp), g4.out⟩
                            · rw [hv] at hIn
                              have hn2 : Hid (((List.range g.blocks.length).take (k + 1)).all (fromOk g.blocks) = true) := Lib.hid (by rw [hyes.out, hall.out, hfk.out, hv]; rfl)
                              clear hv hfk hno hyes hall
                              go_upto_region 14 with fail
                              refine wp_region_rel (C := fun V => Below wr.heap.size wr V) (E := Ext) (R := fun i => (rmtrue k b off w.heap.size x g).getD i VT) (by kernel_rfl) ((Below.refl _ _).drew) (by kernel_rfl) (fun i v w' w'' _ hE h => mono_get _ i rmtrue_mono v w' w'' hE h) (steps_all ?hs) ?hend
                              case hs =>
                                refine stepsL_cons (s_val fun a w5 hC hs => ?_) ?_
                                · skip
                                  have hvx := old_of hs 1 (by kernel_rfl) (by rfl)
                                  exact ⟨wanted_none rfl, _, run_fa rfl (ev hvx) fl_g4, rfl⟩
                                refine stepsL_cons (s_val fun a w5 hC hs => ?_) ?_
                                · skip
                                  obtain ⟨vx, hvx, hRx⟩ := got_of hs 0 72 (by kernel_rfl) (by rfl)
                                  replace hRx : vx = _ := hRx
                                  subst hRx
                                  exact ⟨wanted_none rfl, _, run_ld rfl (ev hvx) (ld_blks (hK.out w5 hC).1), rfl⟩
                                refine stepsL_cons (s_val fun a w5 hC hs => ?_) ?_
                                · skip
                                  have hvx := old_of hs 5 (by kernel_rfl) (by rfl)
                                  exact ⟨wanted_none rfl, _, run_mv (.inl rfl) (ev hvx), rfl⟩
                                refine stepsL_cons (s_val fun a w5 hC hs => ?_) ?_
                                · skip
                                  obtain ⟨vx, hvx, hRx⟩ := got_of hs 1 73 (by kernel_rfl) (by rfl)
                                  replace hRx : vx = _ := hRx
                                  subst hRx
                                  obtain ⟨vy, hvy, hRy⟩ := got_of hs 2 74 (by kernel_rfl) (by rfl)
                                  replace hRy : vy = _ := hRy
                                  subst hRy
                                  exact ⟨wanted_none rfl, _, run_ix rfl (ev hvx) (ev hvy) (ix_blk hk1), rfl⟩
                                refine stepsL_cons (s_val fun a w5 hC hs => ?_) ?_
                                · skip
                                  obtain ⟨vx, hvx, hRx⟩ := got_of hs 3 75 (by kernel_rfl) (by rfl)
                                  replace hRx : vx = _ := hRx
                                  subst hRx
                                  exact ⟨wanted_none rfl, _, run_fa rfl (ev hvx) fl_k2, rfl⟩
                                refine stepsL_cons (s_val fun a w5 hC hs => ?_) ?_
                                · skip
                                  obtain ⟨vx, hvx, hRx⟩ := got_of hs 4 76 (by kernel_rfl) (by rfl)
                                  replace hRx : vx = _ := hRx
                                  subst hRx
                                  exact ⟨wanted_none rfl, _, run_ld rfl (ev hvx) (ld_ints (hK.out w5 hC).2), rfl⟩
                                refine stepsL_cons (s_val fun a w5 hC hs => ?_) ?_
                                · skip
                                  have hvx := old_of hs 1 (by kernel_rfl) (by rfl)
                                  exact ⟨wanted_none rfl, _, run_fa rfl (ev hvx) fl_g4, rfl⟩
                                refine stepsL_cons (s_val fun a w5 hC hs => ?_) ?_
                                · skip
                                  obtain ⟨vx, hvx, hRx⟩ := got_of hs 6 78 (by kernel_rfl) (by rfl)
                                  replace hRx : vx = _ := hRx
                                  subst hRx
                                  exact ⟨wanted_none rfl, _, run_ld rfl (ev hvx) (ld_blks (hK.out w5 hC).1), rfl⟩
                                refine stepsL_cons (s_val fun a w5 hC hs => ?_) ?_
                                · skip
                                  have hvx := old_of hs 5 (by kernel_rfl) (by rfl)
                                  exact ⟨wanted_none rfl, _, run_mv (.inl rfl) (ev hvx), rfl⟩
                                refine stepsL_cons (s_call fun a w5 hC hs => ?_) ?_
                                · skip
                                  obtain ⟨vx, hvx, hRx⟩ := got_of hs 7 79 (by kernel_rfl) (by rfl)
                                  replace hRx : vx = _ := hRx
                                  subst hRx
                                  obtain ⟨vy, hvy, hRy⟩ := got_of hs 8 80 (by kernel_rfl) (by rfl)
                                  replace hRy : vy = _ := hRy
                                  subst hRy
                                  refine ⟨wanted_none rfl, 33, _, run_call2 rfl (ev hvx) (ev hvy) (fun _ _ => rfl), (hFr.out w5 hC).mono (fun e w' ⟨v, he, ho, hb⟩ => ⟨v, he, hC.trans (hb.mono hC.size), hb, ?_⟩)⟩
                                  obtain ⟨a7, c7, rfl, hr7⟩ := row_own1 ho
                                  exact ⟨a7, c7, rfl, hr7⟩
                                refine stepsL_cons (s_call fun a w5 hC hs => ?_) ?_
                                · skip
                                  obtain ⟨vx, hvx, hRx⟩ := got_of hs 5 77 (by kernel_rfl) (by rfl)
                                  replace hRx : vx = _ := hRx
                                  subst hRx
                                  obtain ⟨vy, hvy, hRy⟩ := got_of hs 9 81 (by kernel_rfl) (by rfl)
                                  obtain ⟨ay, cy, rfl, hry⟩ := hRy
                                  exact ⟨wanted_none rfl, 32, _, run_call2 rfl (ev hvx) (ev hvy) (fun _ _ => rfl), (hIn.out ay cy w5 hC hry).mono (fun e w' ⟨he, hb⟩ => ⟨_, he, hC.trans (hb.mono hC.size), hb, rfl⟩)⟩
                                refine stepsL_cons (s_val fun a w5 hC hs => ?_) ?_
                                · skip
                                  obtain ⟨vx, hvx, hRx⟩ := got_of hs 10 82 (by kernel_rfl) (by rfl)
                                  replace hRx : vx = _ := hRx
                                  subst hRx
                                  exact ⟨wanted_none rfl, _, run_notB rfl (ev hvx), rfl⟩
                                exact stepsL_nil
                              case hend =>
                                intro σ V4 hC4 hR4
                                generalize hF : fillL _ _ _ _ _ = F
                                simp [fillL, dstOf, List.range, List.range.loop, Act.put] at hF
                                subst hF
                                have h11 : σ 11 = .bool false := hR4 11 (by simp)
                                rw [h11]
                                have g4 := Lib.hid (g1.out.trans (hC4.mono g1.out.size))
                                have g5 := Lib.hid (hb.out.trans (hC4.mono hb.out.size))
                                clear hR4 hC4 h11 hK hFr hIn
                                clear g1 hb q3 q4
                                obtain ⟨q3, q4⟩ := hbox.out V4 g5.out
                                go_wp2_with fail
                                go_loopw [6, 7] (fun a s wq => ∃ n m : Nat, a = .int .i64 m ∧ s = .int .i64 n ∧ n ≤ g.blocks.length ∧ m < g.blocks.length ∧ Hid (m = itN g.blocks k n) ∧ Hid (∀ i, i < n → bareB g.blocks (itN g.blocks k i) = true) ∧ Hid (∀ s, 1 ≤ s → s ≤ n → itN g.blocks k s ≠ k) ∧ wq = V4) (fun _ s _ => g.blocks.length - (intOf s).toNat)
                                case atStart => exact ⟨0, k, rfl, rfl, Nat.zero_le _, hlt, Lib.hid rfl, Lib.hid (fun i hi => by omega), Lib.hid (fun s h1 h2 => by omega), rfl⟩
                                case round =>
                                  obtain ⟨n, m, rfl, rfl, hn, hml, hme, hbare, hne, rfl⟩ := hrel
                                  have hm1 : (m : Int) < (g.blocks.length : Int) := by omega
                                  by_cases hnt : n < g.blocks.length
                                  · have hn1 : (n : Int) < (g.blocks.length : Int) := by omega
                                    obtain ⟨y, hy⟩ : ∃ y, g.blocks[m]? = some y := ⟨_, List.getElem?_eq_getElem hml⟩
                                    obtain ⟨b3, off3, ha, _, c0, c1, c2, c3⟩ := bk_row (hR.out _ g4.out) m y hy
                                    cases ha
                                    have hym := List.mem_of_getElem? hy
                                    obtain ⟨cy1, cy2⟩ := len_i (hX.out y _ hym g4.out).crow
                                    have hbr := Lib.hid (bare_at hy)
                                    by_cases h0 : y.code.length = 0
                                    · have hbt : Hid (bareB g.blocks m = true) := Lib.hid (by rw [hbr.out, h0]; rfl)
                                      have htl := ends_ne hends.out y hym h0
                                      obtain ⟨z, hz⟩ : ∃ z, y.tt[0]? = some z := ⟨_, List.getElem?_eq_getElem htl⟩
                                      have hzr := ends_to hends.out y hym z (List.mem_of_getElem? hz)
                                      obtain ⟨p, rfl⟩ : ∃ p : Nat, z = p := ⟨z.toNat, by omega⟩
                                      have hpl : p < g.blocks.length := by omega
                                      have hnx := Lib.hid (nxt_at hy hz)
                                      have hrt := (hX.out y _ hym g4.out).trow
                                      obtain ⟨tt1, tt2⟩ := len_i hrt
                                      obtain ⟨b', off', ha', _, d0⟩ := num_row hrt 0 _ hz
                                      rw [ha'] at c3
                                      rw [Nat.add_zero] at d0
                                      rw [h0] at c1
                                      have hit : Hid (itN g.blocks k (n + 1) = p) := Lib.hid (by rw [itN, ← hme.out, hnx.out])
                                      have hbare2 : Hid (∀ i, i < n + 1 → bareB g.blocks (itN g.blocks k i) = true) := Lib.hid (fun i hi => by
                                        rcases Nat.lt_or_ge i n with h | h
                                        · exact hbare.out i h
                                        · rw [show i = n by omega, ← hme.out]; exact hbt.out)
                                      replace h0 := Lib.hid h0
                                      have htl0 : (0 : Int) < (y.tt.length : Int) := by omega
                                      clear hy hym hrt ha' hz hzr hbr cy1 cy2 hnx hbt hbare
                                      by_cases hpk : p = k
                                      · have hpk1 : ((p : Int) == (k : Int)) = true := by simp [hpk]
                                        have hfin : Hid (outP g.blocks = false) := Lib.hid (by
                                          have h := lead_it n hbare2.out
                                          rw [hit.out, hpk] at h
                                          exact out_no hlt h)
                                        clear hpk hne hme hit hbare2
                                        go_wp2_with fail
                                        go_ret
                                        exact ⟨ret_bool (by rw [hm.out, hfin.out]; simp), g4.out⟩
                                      · have hpk1 : ((p : Int) == (k : Int)) = false := ne_b (by omega)
                                        have hne2 : Hid (∀ s, 1 ≤ s → s ≤ n + 1 → itN g.blocks k s ≠ k) := Lib.hid (fun s h1 h2 => by
                                          rcases Nat.lt_or_ge n s with h | h
                                          · rw [show s = n + 1 by omega, hit.out]; exact hpk
                                          · exact hne.out s h1 h)
                                        have hit2 : Hid (p = itN g.blocks k (n + 1)) := Lib.hid hit.out.symm
                                        clear hpk hne hme hit
                                        go_wp2_with fail
                                        go_roundw
                                        case rel => exact ⟨n + 1, p, rfl, by go_num, by omega, hpl, hit2, hbare2, hne2, by first | rfl | trivial⟩
                                        case measure => simp [intOf]; omega
                                    · have hbt : Hid (bareB g.blocks m = false) := Lib.hid (by rw [hbr.out]; simp [h0])
                                      have hne0 : ((y.code.length : Int) == 0) = false := ne_b (by omega)
                                      have hnr2 : Hid (∀ i, i < k + 1 → NoRet g.blocks i g.blocks.length) := Lib.hid (fun i hi => by
                                        rcases Nat.lt_or_ge i k with h | h
                                        · exact hnr.out i h
                                        · rw [show i = k by omega]
                                          intro s h1 h2 h3
                                          rcases Nat.lt_or_ge n s with h4 | h4
                                          · have := h3 n h4
                                            rw [← hme.out, hbt.out] at this
                                            cases this
                                          · exact hne.out s h1 h4)
                                      clear hy hym hbr h0 hne hme hbare hnr
                                      go_wp2_with fail
                                      go_roundw
                                      case rel => exact ⟨k + 1, by omega, by go_num, hn2, hnr2, g5⟩
                                      case measure => simp [intOf]; omega
                                  · have hnr2 : Hid (∀ i, i < k + 1 → NoRet g.blocks i g.blocks.length) := Lib.hid (fun i hi => by
                                      rcases Nat.lt_or_ge i k with h | h
                                      · exact hnr.out i h
                                      · rw [show i = k by omega]
                                        intro s h1 h2 _
                                        exact hne.out s h1 (by omega))
                                    have hn1 : ¬ (n : Int) < (g.blocks.length : Int) := by omega
                                    clear hne hme hbare hnr
                                    go_wp2_with fail
                                    go_roundw
                                    case rel => exact ⟨k + 1, by omega, by go_num, hn2, hnr2, g5⟩
                                    case measure => simp [intOf]; omega
                          · have hkn : k = g.blocks.length := by omega
                            have hfos : Hid (fromsOk g.blocks = true) := Lib.hid (by
                              have := hall.out
                              rw [List.take_of_length_le (by simp; omega)] at this
                              exact this)
                            have hout : Hid (outP g.blocks = true) := Lib.hid (out_yes (out_noRet (nxt_lt hends.out rfl) (fun i hi => hnr.out i (by omega))))
                            have hlast2 : ¬ (k : Int) < (g.blocks.length : Int) := by omega
                            clear hall hnr hX hR hFm hends hkn
                            go_wp2_with fail
                            go_ret
                            exact ⟨ret_bool (by rw [hm.out, hf.out, hblk.out, hfi2.out, hfos.out, hout.out]; rfl), g1.out⟩
                      · have hfi2 : Hid (firstOk g.blocks = false) := Lib.hid (by rw [hfi.out]; simp [hz])
                        have hz2 : (0 : Int) < (x0.fm.length : Int) := by omega
                        clear hfi hz hX hR hFm
                        go_wp2_with fail
                        go_ret
                        exact ⟨ret_bool (by rw [hm.out, hfi2.out]; simp), g1.out⟩
        · have h2' := ne_n h2
          have hf : Hid (headG g = false) := Lib.hid (by rw [hhead.out]; simp; omega)
          clear hhead hX hR hBk hFm hbw
          go_enter Tryd.func12, Tryd.ntmps12
          go_wp2_with fail
          go_ret
          exact ⟨ret_bool (by rw [hm.out, hf.out]; rfl), hst.out⟩
end Go.Proofs.YtckmgefailclcaaDoor.Fw
