/- Walks of one, ints of law07. Conditions: the list that is handed in lies in memory. -/
import Derived.Test.YtiicjbnocpphdaaDoorCdQ
import Derived.Test.YtiicjbnocpphdaaDoorCdG
namespace Go.Proofs.YtiicjbnocpphdaaDoor.Cd
open Go Go.RowKit
open Go.Proofs.YtiicjbnocpphdaaDoor.Lx Go.Proofs.YtiicjbnocpphdaaDoor.Tr

/-- a program of one thread, with a Mem of two cells, a lock, and a func of two Params; its lists lie anywhere -/
def oneP (ma la fa aa ca ba : Option Addr) (mc lc fc ac cc bc : Nat) (regs : Int) (l : List Ins) : Pg :=
  ⟨ma, mc, [⟨⟨#[109]⟩, 2, 0⟩], la, lc, [⟨#[108]⟩], fa, fc, [⟨⟨#[116]⟩, true, 0, regs, ca, cc, l⟩, ⟨⟨#[102]⟩, false, 2, 2, ba, bc, [⟨13, 0, 0, 0, 0, aa, ac, []⟩]⟩]⟩
theorem five0 (w : World) (o0 o1 o2 o3 o4 : Obj) (W : World) (h : ((((w.alloc o0).alloc o1).alloc o2).alloc o3).alloc o4 = W) : W.heap[w.heap.size]? = some o0 := by
  subst h
  exact (Below.heap_alloc _ _ _ (by simp; omega)).trans ((Below.heap_alloc _ _ _ (by simp; omega)).trans ((Below.heap_alloc _ _ _ (by simp; omega)).trans ((Below.heap_alloc _ _ _ (by simp)).trans (blk_new _ _ rfl))))
theorem row_blk {W : World} {S : Nat → Prop} {b : Nat} {vs : List Value} {T : TypeId} {fr : Nat × Nat} (n : Nat) (h : W.heap[b]? = some (.cells ⟨vs⟩ T fr)) (hn : n ≤ 100000) (hS : S b) : RowAt W S (some ⟨b, 0, none⟩) n n vs :=
  ⟨Nat.le_refl _, by unfold maxLen; omega, fun h => (by cases h), fun j u hu => ⟨b, 0, rfl, hS, by rw [Nat.zero_add]; simp only [World.cell?, h]; simpa using hu⟩⟩
theorem row_none (W : World) (S : Nat → Prop) : RowAt W S none 0 0 [] := ⟨Nat.le_refl _, by unfold maxLen; omega, fun _ => rfl, fun j u hj => by simp at hj⟩
theorem i64_of {n : Int} (h1 : -1000000 ≤ n) (h2 : n ≤ 1000000) : I64 n := ⟨by omega, by omega⟩
theorem sz1 (b : UInt8) : (⟨#[b]⟩ : ByteArray).size ≤ maxLen := by show 1 ≤ 2 ^ 63 - 1; decide
theorem i64_0 : I64 0 := ⟨by decide, by decide⟩
theorem i64_2 : I64 2 := ⟨by decide, by decide⟩
theorem back_In (W : World) (S : Nat → Prop) : Ins.In W S ⟨13, 0, 0, 0, 0, none, 0, []⟩ := ⟨⟨by decide, by decide⟩, i64_of (by decide) (by decide), i64_of (by decide) (by decide), i64_of (by decide) (by decide), i64_of (by decide) (by decide), row_none _ _, fun x hx => (by cases hx)⟩
set_option maxHeartbeats 2000000 in
set_option maxRecDepth 100000 in
theorem one_any (regs : Int) (l : List Ins) (ca : Option Addr) (cc : Nat) (w : World) (hr : I64 regs) (hrow : RowAt w (fun _ => True) ca cc l.length (inCells l)) (hin : ∀ i ∈ l, Ins.In w (fun _ => True) i) :
    Calls Tryd.prog 8 #[.int .i64 regs, .slice ca l.length cc] w fun e w' => ∃ ma la fa aa ba mc lc fc ac bc, e = .returned (oneP ma la fa aa ca ba mc lc fc ac cc bc regs l).val ∧ Pg.In w' (fun _ => True) (oneP ma la fa aa ca ba mc lc fc ac cc bc regs l) ∧ Below w.heap.size w w' := by
  go_enter Tryd.func8, Tryd.ntmps8
  go_wp2_with fail
  obtain ⟨W, hW⟩ : ∃ W, (((((w.alloc (.cells #[.slice (some ⟨w.heap.size + 1, 0, none⟩) 1 1, .slice (some ⟨w.heap.size + 1 + 1, 0, none⟩) 1 1, .slice (some ⟨w.heap.size + 1 + 1 + 1 + 1, 0, none⟩) 2 2] 27)).alloc (.cells #[.string ⟨#[109]⟩, .int .i64 2, .int .i64 0] 50)).alloc (.cells #[.string ⟨#[108]⟩] 9)).alloc (.cells #[.int .u8 13, .int .i64 0, .int .i64 0, .int .i64 0, .int .i64 0, .slice none 0 0] 31)).alloc (.cells #[.string ⟨#[116]⟩, .bool true, .int .i64 0, .int .i64 regs, .slice ca l.length cc, .string ⟨#[102]⟩, .bool false, .int .i64 2, .int .i64 2, .slice (some ⟨w.heap.size + 1 + 1 + 1, 0, none⟩) 1 1] 42)) = W := ⟨_, rfl⟩
  rw [hW]
  have g0 := five0 _ _ _ _ _ _ _ hW
  obtain ⟨g1, g2, g3, g4, hs, hb⟩ := five _ _ _ _ _ _ _ hW
  clear hW
  refine bodyPost_ret (v := .agg #[.slice (some ⟨w.heap.size + 1, 0, none⟩) 1 1, .slice (some ⟨w.heap.size + 1 + 1, 0, none⟩) 1 1, .slice (some ⟨w.heap.size + 1 + 1 + 1 + 1, 0, none⟩) 2 2]) (results_cell_row Tryd.results8 _ _ w.heap.size _ _ _ _ rfl g0 Tryd.underlying27 rfl (by kernel_rfl)) rfl ?_
  have hK : Kps (fun _ => True) w W := Kps.of_below hb
  refine ⟨some ⟨w.heap.size + 1, 0, none⟩, some ⟨w.heap.size + 1 + 1, 0, none⟩, some ⟨w.heap.size + 1 + 1 + 1 + 1, 0, none⟩, none, some ⟨w.heap.size + 1 + 1 + 1, 0, none⟩, 1, 1, 2, 0, 1, rfl, ⟨?_, ?_, ?_, ?_, ?_, ?_⟩, hb⟩
  · exact row_blk 1 g1 (by decide) trivial
  · intro m hm
    rw [List.mem_singleton.1 hm]
    exact ⟨sz1 _, i64_2, i64_0⟩
  · exact row_blk 1 g2 (by decide) trivial
  · intro m hm
    rw [List.mem_singleton.1 hm]
    exact sz1 _
  · exact row_blk 2 g4 (by decide) trivial
  · intro f hf
    rcases List.mem_cons.1 hf with rfl | hf
    · exact ⟨sz1 _, i64_0, hr, hrow.below hK, fun i hi => (hin i hi).below hK⟩
    · rw [List.mem_singleton.1 hf]
      refine ⟨sz1 _, i64_2, i64_2, row_blk 1 g3 (by decide) trivial, fun i hi => ?_⟩
      rw [List.mem_singleton.1 hi]
      exact back_In _ _
set_option maxHeartbeats 800000 in
set_option maxRecDepth 100000 in
theorem ints_any (l l' : List Int) (a a' : Option Addr) (cap cap' : Nat) (w : World) (hrow : RowAt w (fun _ => True) a cap l.length (numCells l)) (hrow' : RowAt w (fun _ => True) a' cap' l'.length (numCells l')) :
    Calls Tryd.prog 17 #[.slice a l.length cap, .slice a' l'.length cap'] w fun x w' => x = .returned (.bool (decide (l = l'))) ∧ Below w.heap.size w w' := by
  obtain ⟨hc11, hc12⟩ := len_i hrow
  obtain ⟨hc21, hc22⟩ := len_i hrow'
  by_cases hle : l.length = l'.length
  · have hne : ((l.length : Int) != (l'.length : Int)) = false := by rw [hle]; simp
    have hle' := Lib.hid hle
    go_enter Tryd.func17, Tryd.ntmps17
    clear hle
    go_wp2
    go_loopw [5] (fun i wr => ∃ k : Nat, k ≤ l.length ∧ i = .int .i64 k ∧ l.take k = l'.take k ∧ ∃ m, wr = w.drewN m) (fun i _ => l.length - (intOf i).toNat)
    case atStart => exact ⟨0, Nat.zero_le _, rfl, rfl, 0, rfl⟩
    case round =>
      obtain ⟨k, hk, rfl, htk, m, rfl⟩ := hrel
      replace htk := Lib.hid htk
      by_cases hlt : k < l.length
      · have hlt' : k < l'.length := by rw [← hle'.out]; exact hlt
        obtain ⟨x, hx⟩ : ∃ e, l[k]? = some e := ⟨l[k], by simp [hlt]⟩
        obtain ⟨y, hy⟩ : ∃ e, l'[k]? = some e := ⟨l'[k], by simp [hlt']⟩
        obtain ⟨b, off, rfl, _, hcell⟩ := hrow.at_ k (.int .i64 x) (by unfold numCells; rw [List.getElem?_map, hx]; rfl)
        obtain ⟨b', off', rfl, _, hcell'⟩ := hrow'.at_ k (.int .i64 y) (by unfold numCells; rw [List.getElem?_map, hy]; rfl)
        replace hx := Lib.hid hx
        replace hy := Lib.hid hy
        have hkl' : k < l'.length := hlt'
        by_cases hxy : x = y
        · have HT : Hid (l.take (k + 1) = l'.take (k + 1)) := Lib.hid (by rw [List.take_add_one, List.take_add_one, htk.out, hx.out, hy.out, hxy])
          subst hxy
          go_wp2
          go_quiet (fail)
          go_wp2
          go_roundw
          case rel => exact ⟨k + 1, by omega, by go_num, HT.out, _, rfl⟩
          case measure => simp [intOf]; omega
        · have HN : Hid (decide (l = l') = false) := Lib.hid (by
            rw [decide_eq_false_iff_not]; intro e; apply hxy
            have h3 := hx.out; rw [e, hy.out] at h3
            exact (Option.some.inj h3).symm)
          have hs1 := ne_n hxy
          clear hxy
          go_wp2
          go_quiet (fail)
          go_wp2
          go_ret
          exact ⟨ret_bool HN.out.symm, ⟨rfl, rfl, rfl, Nat.le_refl _, fun _ _ => rfl⟩⟩
      · have HE : Hid (decide (l = l') = true) := Lib.hid (by
          have h3 := htk.out
          have h4 := hle'.out
          rw [List.take_of_length_le (by omega), List.take_of_length_le (by omega)] at h3
          simpa using h3)
        clear htk
        go_wp2
        go_ret
        exact ⟨ret_bool HE.out.symm, ⟨rfl, rfl, rfl, Nat.le_refl _, fun _ _ => rfl⟩⟩
  · have hne : ((l.length : Int) != (l'.length : Int)) = true := by simp; omega
    have hF : Hid (decide (l = l') = false) := Lib.hid (by rw [decide_eq_false_iff_not]; intro h; exact hle (by rw [h]))
    go_enter Tryd.func17, Tryd.ntmps17
    go_wp2
    go_ret
    exact ⟨ret_bool hF.out.symm, Below.refl _ _⟩
theorem row_own {B : Nat} {e : TypeId} {c n : Nat} {v : Value} {xs : List Value} {w : World} (h : w.ownsRow B e c v n xs) : ∃ a cap, v = .slice a n cap ∧ RowAt w (fun b => B ≤ b) a cap n xs := by
  obtain ⟨hlen, ⟨rfl, h0⟩ | ⟨g, cap, cur, rfl, hB, hg, h1, h2, h3, h4⟩⟩ := h
  · subst h0
    have : xs = [] := List.eq_nil_of_length_eq_zero (by simpa using hlen)
    subst this
    exact ⟨none, 0, rfl, row_none _ _⟩
  · refine ⟨_, cap, rfl, ⟨h1, h2, fun h => (by cases h), fun j u hj => ⟨g, 0, rfl, hB, ?_⟩⟩⟩
    have hj2 : j < n * c := by rw [← hlen]; exact (List.getElem?_eq_some_iff.1 hj).1
    rw [Nat.zero_add]
    rw [← h4, List.getElem?_take, if_pos hj2] at hj
    simp only [World.cell?, hg]
    simpa using hj
theorem w_yes (ma la fa aa ca ba : Option Addr) (mc lc fc ac cc bc : Nat) : mayP (oneP ma la fa aa ca ba mc lc fc ac cc bc 1 [⟨1, 0, 0, 0, 0, none, 0, []⟩, ⟨13, 0, 0, 0, 0, none, 0, []⟩]) = true := by kernel_rfl
theorem w_no1 (ma la fa aa ca ba : Option Addr) (mc lc fc ac cc bc : Nat) : mayP (oneP ma la fa aa ca ba mc lc fc ac cc bc 0 [⟨1, 0, 0, 0, 0, none, 0, []⟩, ⟨13, 0, 0, 0, 0, none, 0, []⟩]) = false := by kernel_rfl
theorem w_no2 (ma la fa aa ca ba : Option Addr) (mc lc fc ac cc bc : Nat) : mayP (oneP ma la fa aa ca ba mc lc fc ac cc bc 1 [⟨1, 0, 0, 0, 0, none, 0, []⟩, ⟨12, 0, 0, 0, 0, none, 0, []⟩]) = false := by kernel_rfl
theorem w_no3 (ma la fa aa ca ba : Option Addr) (mc lc fc ac cc bc : Nat) : mayP (oneP ma la fa aa ca ba mc lc fc ac cc bc 2 [⟨5, 0, 0, 1, 0, none, 0, []⟩, ⟨13, 0, 0, 0, 0, none, 0, []⟩]) = false := by kernel_rfl
end Go.Proofs.YtiicjbnocpphdaaDoor.Cd
