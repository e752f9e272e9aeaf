/- Walk of grow: the tree of which each block's next one above is known. Conditions: it is a tree. -/
import Derived.Test.YtiaecobjbckhoaaDbH
import Derived.Test.YtiaecobjbckhoaaDbM
import Derived.Test.YtiaecobjbckhoaaDbL
import Derived.Test.YtiaecobjbckhoaaDbO0
import Derived.Laws.EntriesVeiled
set_option linter.unusedVariables false
set_option linter.unusedSimpArgs false
namespace Go.Proofs.Ytiaecobjbckhoaa.Db
open Go Go.RowKit
open Go.WideShapes Go.MapKept Dm
open Go.Proofs.Ytiaecobjbckhoaa.Qr Go.Proofs.Ytiaecobjbckhoaa.Vq Go.Proofs.Ytiaecobjbckhoaa.QrS

theorem Src.start0 (W : World) (B n : Nat) : Src B W.heap.size n (fun _ => []) (W.alloc (.cells (Array.replicate n (.slice none 0 0)) 33)) := by
  refine ⟨trivial, List.replicate n (.slice none 0 0), by simp, ?_, ?_, ?_⟩
  · rw [blk_new W _ rfl]; simp
  · intro k v hv
    rw [List.getElem?_replicate] at hv
    split at hv
    · cases hv; exact World.ownsRow_nil _ _ _ _
    · cases hv
  · intro i j v u _ hv _ hn
    rw [List.getElem?_replicate] at hv
    split at hv
    · cases hv; exact absurd rfl hn
    · cases hv
theorem made_in (w : World) (n : Nat) : InR w.heap.size n (fun _ => 0) (w.alloc (.cells (Array.replicate n (Value.int .i64 0)) 3)) :=
  ⟨List.replicate n (Value.int .i64 0), by simp, by rw [blk_new w _ rfl]; simp, fun k hk => by rw [List.getElem?_replicate, if_pos hk]⟩
/-- who stands right below a block, of the first k -/
def kidsP (next : Nat → Int) : Nat → Nat → List Int
  | 0, _ => []
  | k + 1, b => kidsP next k b ++ if next k = (b : Int) then [(k : Int)] else []
theorem kidsP_len (next : Nat → Int) (b : Nat) : ∀ k, (kidsP next k b).length ≤ k
  | 0 => by simp [kidsP]
  | k + 1 => by
    unfold kidsP
    have := kidsP_len next b k
    rw [List.length_append]
    split <;> simp <;> omega
theorem kidsP_in (next : Nat → Int) (b : Nat) : ∀ k, ∀ x ∈ kidsP next k b, ∃ y : Nat, x = y ∧ y < k ∧ next y = (b : Int)
  | 0, x, h => by cases h
  | k + 1, x, h => by
    unfold kidsP at h
    rw [List.mem_append] at h
    rcases h with h | h
    · obtain ⟨y, h1, h2, h3⟩ := kidsP_in next b k x h
      exact ⟨y, h1, by omega, h3⟩
    · split at h
      · rename_i hn
        rw [List.mem_singleton] at h
        exact ⟨k, h, by omega, hn⟩
      · cases h
def growP (n : Nat) (next : Nat → Int) : Tp :=
  let s := stand (kidsP next n) (n + 1) ⟨[], fun _ => -1, fun _ => 0⟩ 0
  ⟨n, s.order, s.place, s.end_, next⟩
set_option maxHeartbeats 16000000 in
set_option maxRecDepth 100000 in
theorem grow_c (gn n cn : Nat) (next : Nat → Int) (ht : Nat → Nat) (w : World) (hn0 : 0 < n) (hn : n ≤ 32768) (hcn : n ≤ cn ∧ cn ≤ maxLen) (hg : InR gn n next w) (hnx : ∀ b, b < n → next b = -1 ∨ ∃ p : Nat, next b = p ∧ p < n ∧ ht b < ht p) (h0 : ht 0 ≤ n) (hlen0 : (growP n next).order.length ≤ 32768) :
    Calls Try.prog 25 #[.slice (some ⟨gn, 0, none⟩) n cn] w fun e w' => ∃ tb gp ge oa oc, e = .returned (.pointer (some ⟨tb, 0, none⟩)) ∧ TreM tb gp ge gn n n cn oa oc (growP n next) w' ∧ w.heap.size ≤ tb ∧ Below w.heap.size w w' := by
  have hmk := fun V => make_ll n (by omega) V
  have hgl := hg.lt
  obtain ⟨hcn1, hcn2⟩ := hcn
  have hb1 : Below w.heap.size w ((w.alloc (.cells (Array.replicate n (.slice none 0 0)) 33)).alloc (.cells #[.slice (some ⟨w.heap.size, 0, none⟩) n n] 22)) := ((Below.refl _ _).alloc (Nat.le_refl _) _).alloc (by simp) _
  have hsr := (Src.start0 w (w.heap.size + 2) n).keep (b_alloc _ (.cells #[.slice (some ⟨w.heap.size, 0, none⟩) n n] 22))
  have k0 : ((w.alloc (.cells (Array.replicate n (.slice none 0 0)) 33)).alloc (.cells #[.slice (some ⟨w.heap.size, 0, none⟩) n n] 22)).heap[w.heap.size + 1]? = some (.cells #[.slice (some ⟨w.heap.size, 0, none⟩) n n] 22) := blk_new _ _ (by simp)
  have hz1 : ((w.alloc (.cells (Array.replicate n (.slice none 0 0)) 33)).alloc (.cells #[.slice (some ⟨w.heap.size, 0, none⟩) n n] 22)).heap.size = w.heap.size + 2 := by simp
  replace hg := Lib.hid hg
  go_enter Try.func25, Try.ntmps25
  go_wp2_with fail
  generalize (w.alloc (.cells (Array.replicate n (.slice none 0 0)) 33)).alloc (.cells #[.slice (some ⟨w.heap.size, 0, none⟩) n n] 22) = W0 at *
  have cK0 : Hid (W0.cell? ⟨w.heap.size + 1, 0, none⟩ = some (.slice (some ⟨w.heap.size, 0, none⟩) n n)) := Lib.hid (blk_cell (j := 0) k0 rfl)
  have hg0 : Hid (InR gn n next W0) := Lib.hid (hg.out.at_ (hb1.block _ hgl))
  replace hsr := Lib.hid hsr
  replace hb1 := Lib.hid hb1
  replace hz1 := Lib.hid hz1
  clear k0 hmk
  obtain ⟨gk, hgk⟩ : ∃ gk, gk = w.heap.size := ⟨_, rfl⟩
  rw [← hgk] at hsr hb1 hz1 cK0 hgl
  replace hgk := Lib.hid hgk
  go_loopw [13] (fun i wr => ∃ b : Nat, b ≤ n ∧ i = .int .i64 b ∧ Hid (Src (gk + 2) gk n (kidsP next b) wr) ∧ Hid (Fr (fun i => gk + 2 ≤ i ∨ i = gk) W0 wr)) (fun i _ => n - (intOf i).toNat)
  case atStart => exact ⟨0, Nat.zero_le _, rfl, hsr, Lib.hid (Fr.refl _ _)⟩
  case round =>
    clear hsr
    obtain ⟨b, hbn, rfl, hS, hf⟩ := hrel
    have hszr : Hid (gk + 2 ≤ wr.heap.size) := Lib.hid (by have := hf.out.size; have := hz1.out; omega)
    by_cases hlt : b < n
    · obtain ⟨t1, _⟩ := (hf.out.inr hg0.out (by omega)).get hlt
      have hb0 : (0 : Int) ≤ (b : Int) := by omega
      have hbi : (b : Int) < (n : Int) := by omega
      rcases hnx b hlt with he | ⟨p, he, hp, _⟩
      · rw [he] at t1
        have hkk : Hid (Src (gk + 2) gk n (kidsP next (b + 1)) wr) := Lib.hid (hS.out.cong fun k _ => by
          show kidsP next b k = kidsP next b k ++ _
          rw [he, if_neg (by omega), List.append_nil])
        clear he
        go_wp2_with fail
        go_roundw
        case rel => exact ⟨b + 1, by omega, by go_num, hkk, hf⟩
        case measure => simp [intOf]; omega
      · rw [he] at t1
        have hp0 : (0 : Int) ≤ (p : Int) := by omega
        have hp1 : (p : Int) < (n : Int) := by omega
        have hlen : (kidsP next b p).length + 1 ≤ 1048577 := by have := kidsP_len next p b; omega
        have hkk : ∀ V, Src (gk + 2) gk n (Dm.upd (kidsP next b) p (kidsP next b p ++ [(b : Int)])) V → Src (gk + 2) gk n (kidsP next (b + 1)) V := fun V h => h.cong fun k _ => by
          unfold Dm.upd
          show _ = kidsP next b k ++ _
          rw [he]
          by_cases e : k = p
          · subst e; rw [if_pos rfl, if_pos rfl]
          · rw [if_neg e, if_neg (by omega), List.append_nil]
        replace hkk := Lib.hid hkk
        clear he
        have cK : wr.cell? ⟨w.heap.size + 1, 0, none⟩ = some (.slice (some ⟨gk, 0, none⟩) n n) := by
          rw [← hgk.out]
          exact hf.out.cell (by omega) cK0.out
        obtain ⟨a0, c0, hcell, hfree, hown, _⟩ := hS.out.get hp
        obtain ⟨v0, hv0⟩ : ∃ v0, v0 = Value.slice a0 (kidsP next b p).length c0 := ⟨_, rfl⟩
        rw [← hv0] at hcell hown
        have hdW : Fr (fun _ => False) wr wr.drew := ⟨rfl, rfl, rfl, Nat.le_refl _, fun _ _ _ => rfl⟩
        have hst0 : AC (gk + 2) gk n (kidsP next b) p (b : Int) wr.drew v0 false undef false undef false wr.drew := AC.start (hS.out.frame hdW id (fun _ _ => id)) hp hszr.out hcell hown
        have hfr0' : Fr (fun i => gk + 2 ≤ i ∨ i = gk) W0 wr.drew := hf.out.trans (hdW.mono fun i _ e => e.elim)
        have hs0 : ∃ a n c, v0 = .slice a n c := ⟨_, _, _, hv0⟩
        obtain ⟨W1, hW1⟩ : ∃ W1, W1 = wr.drew := ⟨_, rfl⟩
        have hkc : (w.heap.size + 1 < gk + 2 ∧ w.heap.size + 1 ≠ gk) ∧ W1.cell? ⟨w.heap.size + 1, 0, none⟩ = some (.slice (some ⟨gk, 0, none⟩) n n) := by
          rw [hW1]
          exact ⟨by have := hgk.out; omega, cK⟩
        rw [← hW1] at hst0 hfr0'
        have hst := Lib.hid hst0
        have hfr0 := Lib.hid hfr0'
        replace hW1 := Lib.hid hW1
        clear hst0 hfr0' hcell hown hfree hdW hv0 cK hS hf
        generalize kidsP next b = kf at *
        go_wp2_with fail
        refine wp_region_set (I := RI [(fun v => v = .slice (some ⟨gk, 0, none⟩) n n), (fun v => v = .int .i64 (p : Int)), (fun v => v = .slice (some ⟨gk, 0, none⟩) n n), (fun v => v = .int .i64 (p : Int)), (fun v => v = .pointer (some ⟨gk, p, none⟩)), (fun v => v = v0), (fun v => v = .int .i64 (b : Int)), fun _ => True, fun _ => True, (fun v => v = .pointer (some ⟨gk, p, none⟩)), fun _ => True] (fun L σ w => AC (gk + 2) gk n kf p (b : Int) W1 v0 (L 7) (σ 7) (L 8) (σ 8) (L 10) w)) (by kernel_rfl) ?hI (by kernel_rfl) (stepsI_all ?hs) ?he
        case hI =>
          refine ⟨fun i e => (by cases e), ?_⟩
          rw [← hW1.out]
          exact hst.out
        case hs =>
          clear hst hfr0 hkk
          refine stepsI_cons (fun L σ a w hL hW hS hI hs => ?_) ?_
          · exact ⟨wanted_none rfl, wp_val (run_ld rfl (hs.ev0 3 (by kernel_rfl) (by rfl)) (ld_ll (hI.c.wcell hkc))) ⟨_, rfl, hI.pure (j := 0) rfl hI.c⟩⟩
          refine stepsI_cons (fun L σ a w hL hW hS hI hs => ?_) ?_
          · exact ⟨wanted_none rfl, wp_val (run_mv (.inl rfl) (hs.ev0 5 (by kernel_rfl) (by rfl))) ⟨_, rfl, hI.pure (j := 1) rfl hI.c⟩⟩
          refine stepsI_cons (fun L σ a w hL hW hS hI hs => ?_) ?_
          · exact ⟨wanted_none rfl, wp_val (run_ld rfl (hs.ev0 3 (by kernel_rfl) (by rfl)) (ld_ll (hI.c.wcell hkc))) ⟨_, rfl, hI.pure (j := 2) rfl hI.c⟩⟩
          refine stepsI_cons (fun L σ a w hL hW hS hI hs => ?_) ?_
          · exact ⟨wanted_none rfl, wp_val (run_mv (.inl rfl) (hs.ev0 5 (by kernel_rfl) (by rfl))) ⟨_, rfl, hI.pure (j := 3) rfl hI.c⟩⟩
          refine stepsI_cons (fun L σ a w hL hW hS hI hs => ?_) ?_
          · exact ⟨wanted_none rfl, wp_val (run_ixB rfl (hs.ev 2 22 (by kernel_rfl) (by rfl) (hI.pv 2 (hW 2 (by kernel_rfl)))) (hs.ev 3 23 (by kernel_rfl) (by rfl) (hI.pv 3 (hW 3 (by kernel_rfl)))) (ix_llN hp)) ⟨_, rfl, hI.pure (j := 4) rfl hI.c⟩⟩
          refine stepsI_cons (fun L σ a w hL hW hS hI hs => ?_) ?_
          · have hc := hI.c
            rw [hS.not 8 5 (o := _) (by rfl) (by kernel_rfl) hL, hS.not 10 5 (o := _) (by rfl) (by kernel_rfl) hL] at hc
            have hcell := hc.cell0 rfl
            obtain ⟨va, vn, vc, hve⟩ := hs0
            rw [hve] at hcell
            exact ⟨wanted_none rfl, wp_val (run_ld rfl (hs.ev 4 24 (by kernel_rfl) (by rfl) (hI.pv 4 (hW 4 (by kernel_rfl)))) (ld_li hcell)) ⟨_, rfl, hI.pure (j := 5) hve.symm hI.c⟩⟩
          refine stepsI_cons (fun L σ a w hL hW hS hI hs => ?_) ?_
          · exact ⟨wanted_none rfl, wp_val (run_mv (.inl rfl) (hs.ev0 4 (by kernel_rfl) (by rfl))) ⟨_, rfl, hI.pure (j := 6) rfl hI.c⟩⟩
          refine stepsI_cons (fun L σ a w hL hW hS hI hs => ?_) ?_
          · have e := (hs.ev 6 26 (by kernel_rfl) (by rfl) (hI.pv 6 (hW 6 (by kernel_rfl))))
            have h8 := hS.not 8 7 (o := _) (by rfl) (by kernel_rfl) hL
            have h10 := hS.not 10 7 (o := _) (by rfl) (by kernel_rfl) hL
            refine ⟨wanted_none rfl, wp_val (run_bs (qs := #[(0, .int .i64 (b : Int))]) rfl (by simp [e]) (mk_int1 _ _)) ⟨_, rfl, hI.pure (j := 7) trivial ?_⟩⟩
            have hc := hI.c
            rw [h8, h10] at hc
            have := hc.al
            show AC (gk + 2) gk n kf p (b : Int) W1 v0 true _ (L 8) (σ 8) (L 10) _
            rw [h8, h10]
            exact this
          refine stepsI_cons (fun L σ a w hL hW hS hI hs => ?_) ?_
          · have h10 := hS.not 10 8 (o := _) (by rfl) (by kernel_rfl) hL
            have h7 := hW 7 (by kernel_rfl)
            have hc := hI.c
            rw [hL, h10, h7] at hc
            obtain ⟨g, g1, g2⟩ := hc.nw rfl rfl
            have hr := hc.row rfl
            obtain ⟨i0, hi0, hz0, hz1, hz2⟩ := info_i
            refine ⟨wanted_none rfl, p_app1 (t := 33) (e := 3) rfl Try.underlying33 hi0 hz0 hz1 hz2 rfl (by decide) (hs.ev 5 25 (by kernel_rfl) (by rfl) (hI.pv 5 (hW 5 (by kernel_rfl)))) (hs.ev 7 27 (by kernel_rfl) (by rfl) g1) hr rfl g2 (one_int _) hlen (by omega) hc.size fun v' w' k1 k2 k3 => ⟨_, rfl, hI.pure (j := 8) trivial ?_⟩⟩
            have := hc.app (v' := v') k1 k2 k3
            show AC (gk + 2) gk n kf p (b : Int) W1 v0 (L 7) (σ 7) true v' (L 10) _
            rw [h10, h7]
            exact this
          refine stepsI_cons (fun L σ a w hL hW hS hI hs => ?_) ?_
          · exact ⟨wanted_none rfl, wp_val (run_ixB rfl (hs.ev 0 20 (by kernel_rfl) (by rfl) (hI.pv 0 (hW 0 (by kernel_rfl)))) (hs.ev 1 21 (by kernel_rfl) (by rfl) (hI.pv 1 (hW 1 (by kernel_rfl)))) (ix_llN hp)) ⟨_, rfl, hI.pure (j := 9) rfl hI.c⟩⟩
          refine stepsI_cons (fun L σ a w hL hW hS hI hs => ?_) ?_
          · have h8 := hW 8 (by kernel_rfl)
            have hc := hI.c
            rw [hL, h8] at hc
            obtain ⟨qa, qc, hqv⟩ := hc.vs rfl
            refine ⟨wanted_none rfl, wp_storeL rfl rfl (hs.ev 9 29 (by kernel_rfl) (by rfl) (hI.pv 9 (hW 9 (by kernel_rfl)))) (hs.ev 8 28 (by kernel_rfl) (by rfl) rfl) ⟨_, _, _, hqv⟩ (hc.cell1 rfl rfl).1 (hc.cell1 rfl rfl).2 ⟨_, rfl, hI.pure (j := 10) trivial ?_⟩⟩
            have := hc.pt
            show AC (gk + 2) gk n kf p (b : Int) W1 v0 (L 7) (σ 7) (L 8) (σ 8) true _
            rw [h8]
            exact this
          exact trivial
        case he =>
          intro σ W3 hI
          have hc : AC (gk + 2) gk n kf p (b : Int) W1 v0 true (σ 7) true (σ 8) true W3 := hI.c
          generalize hF : fillL _ _ _ _ _ = F
          simp [fillL, dstOf, List.range, List.range.loop, Act.put] at hF
          subst hF
          have r1 := Lib.hid (hfr0.out.trans hc.fr)
          have r2 := Lib.hid (hkk.out _ (hc.fin rfl rfl))
          clear hI hc hst hfr0 hkk
          go_wp2_with fail
          go_roundw
          case rel => exact ⟨b + 1, by omega, by go_num, r2, r1⟩
          case measure => simp [intOf]; omega
    · have hk2 : n = b := by omega
      clear hlt
      subst hk2
      have hnone := Lib.hid (fun V => none_c n (by omega) (by omega) V)
      have hd0 : Fr (fun _ => False) wr wr.drew := ⟨rfl, rfl, rfl, Nat.le_refl _, fun _ _ _ => rfl⟩
      have hkc : wr.cell? ⟨w.heap.size + 1, 0, none⟩ = some (.slice (some ⟨gk, 0, none⟩) n n) := by
        rw [← hgk.out]
        exact hf.out.cell (by omega) cK0.out
      replace hkc := Lib.hid hkc
      replace hd0 := Lib.hid hd0
      obtain ⟨W1, hW1⟩ : ∃ W1, W1 = wr.drew := ⟨_, rfl⟩
      rw [← hW1] at hd0
      replace hW1 := Lib.hid hW1
      have hlen1 := Lib.hid hlen0
      clear hlen0
      go_wp2_with fail
      refine wp_region_set (I := RI [(fun v => v = .slice (some ⟨gn, 0, none⟩) n cn), (fun v => v = .int .i64 (n : Int)), fun _ => True, (fun v => v = .slice (some ⟨gn, 0, none⟩) n cn), (fun v => v = .int .i64 (n : Int)), fun _ => True, (fun v => v = .slice (some ⟨gn, 0, none⟩) n cn), fun _ => True, fun _ => True, fun _ => True, fun _ => True] (fun L σ w => NT n (.slice (some ⟨gn, 0, none⟩) n cn) W1 (L 2) (L 5) (L 7) (L 8) (L 9) (L 10) (σ 2) (σ 5) (σ 7) (σ 8) (σ 9) w)) (by kernel_rfl) ?hI (by kernel_rfl) (stepsI_all ?hs) ?he
      case hI =>
        refine ⟨fun i e => (by cases e), ?_⟩
        rw [← hW1.out]
        exact NT.start W1
      case hs =>
        clear hd0 hkc hS hf hg0 cK0 hb1 hg hnx hlen1 hW1
        refine stepsI_cons (fun L σ a w hL hW hS hI hs => ?_) ?_
        · exact ⟨wanted_none rfl, wp_val (run_mv (.inl rfl) (hs.ev0 0 (by kernel_rfl) (by rfl))) ⟨_, rfl, hI.pure (j := 0) rfl hI.c⟩⟩
        refine stepsI_cons (fun L σ a w hL hW hS hI hs => ?_) ?_
        · exact ⟨wanted_none rfl, wp_val (run_len rfl (hs.ev 0 31 (by kernel_rfl) (by rfl) (hI.pv 0 (hW 0 (by kernel_rfl)))) ln_sl) ⟨_, rfl, hI.pure (j := 1) rfl hI.c⟩⟩
        refine stepsI_cons (fun L σ a w hL hW hS hI hs => ?_) ?_
        · have h7 := hS.not 7 2 (o := _) (by rfl) (by kernel_rfl) hL
          have h8 := hS.not 8 7 (o := _) (by rfl) (by kernel_rfl) h7
          have h10 := hS.not 10 8 (o := _) (by rfl) (by kernel_rfl) h8
          have hc := hI.c
          rw [hL, h7, h8, h10] at hc
          refine ⟨wanted_none rfl, wp_enter (run_call1 rfl (hs.ev 1 32 (by kernel_rfl) (by rfl) (hI.pv 1 (hW 1 (by kernel_rfl)))) (fun _ _ => rfl)) ((hnone.out w).mono fun e w' ⟨g, he, hg, hR, hb⟩ => ⟨_, he, ⟨_, rfl, hI.pure (j := 2) trivial ?_⟩⟩)⟩
          have := hc.a2 hb hg hR
          show NT n (.slice (some ⟨gn, 0, none⟩) n cn) W1 true (L 5) (L 7) (L 8) (L 9) (L 10) _ (σ 5) (σ 7) (σ 8) (σ 9) _
          rw [h7, h8, h10]
          exact this
        refine stepsI_cons (fun L σ a w hL hW hS hI hs => ?_) ?_
        · exact ⟨wanted_none rfl, wp_val (run_mv (.inl rfl) (hs.ev0 0 (by kernel_rfl) (by rfl))) ⟨_, rfl, hI.pure (j := 3) rfl hI.c⟩⟩
        refine stepsI_cons (fun L σ a w hL hW hS hI hs => ?_) ?_
        · exact ⟨wanted_none rfl, wp_val (run_len rfl (hs.ev 3 34 (by kernel_rfl) (by rfl) (hI.pv 3 (hW 3 (by kernel_rfl)))) ln_sl) ⟨_, rfl, hI.pure (j := 4) rfl hI.c⟩⟩
        refine stepsI_cons (fun L σ a w hL hW hS hI hs => ?_) ?_
        · have h7 := hS.not 7 5 (o := _) (by rfl) (by kernel_rfl) hL
          have h8 := hS.not 8 7 (o := _) (by rfl) (by kernel_rfl) h7
          have h10 := hS.not 10 8 (o := _) (by rfl) (by kernel_rfl) h8
          have hc := hI.c
          rw [hL, h7, h8, h10] at hc
          refine ⟨wanted_none rfl, wp_val (run_ms rfl (hs.ev 4 35 (by kernel_rfl) (by rfl) (hI.pv 4 (hW 4 (by kernel_rfl)))) (hs.ev 4 35 (by kernel_rfl) (by rfl) (hI.pv 4 (hW 4 (by kernel_rfl)))) (make_in n (by omega) _)) ⟨_, rfl, hI.pure (j := 5) trivial ?_⟩⟩
          have := hc.a5 (b_alloc w _) (Nat.le_refl _) (made_in w n)
          show NT n (.slice (some ⟨gn, 0, none⟩) n cn) W1 (L 2) true (L 7) (L 8) (L 9) (L 10) (σ 2) _ (σ 7) (σ 8) (σ 9) _
          rw [h7, h8, h10]
          exact this
        refine stepsI_cons (fun L σ a w hL hW hS hI hs => ?_) ?_
        · exact ⟨wanted_none rfl, wp_val (run_mv (.inl rfl) (hs.ev0 0 (by kernel_rfl) (by rfl))) ⟨_, rfl, hI.pure (j := 6) rfl hI.c⟩⟩
        refine stepsI_cons (fun L σ a w hL hW hS hI hs => ?_) ?_
        · have h8 := hS.not 8 7 (o := _) (by rfl) (by kernel_rfl) hL
          have h10 := hS.not 10 8 (o := _) (by rfl) (by kernel_rfl) h8
          have h2 := hW 2 (by kernel_rfl)
          have h5 := hW 5 (by kernel_rfl)
          have hc := hI.c
          rw [hL, h8, h10] at hc
          obtain ⟨e2, _, _⟩ := hc.p h2
          obtain ⟨e5, _, _⟩ := hc.e h5
          refine ⟨wanted_none rfl, wp_val (run_b (qs := #[(1, .slice (some ⟨bk (σ 2), 0, none⟩) n n), (2, .slice (some ⟨bk (σ 5), 0, none⟩) n n), (3, .slice (some ⟨gn, 0, none⟩) n cn)]) rfl (by simp [(hs.ev 2 33 (by kernel_rfl) (by rfl) e2), (hs.ev 5 36 (by kernel_rfl) (by rfl) e5), (hs.ev 6 37 (by kernel_rfl) (by rfl) (hI.pv 6 (hW 6 (by kernel_rfl))))]) (b_tree _ _ _ _ _ _ _ _ _)) ⟨_, rfl, hI.pure (j := 7) trivial ?_⟩⟩
          have := hc.a7
          rw [h2, h5] at this
          show NT n (.slice (some ⟨gn, 0, none⟩) n cn) W1 (L 2) (L 5) true (L 8) (L 9) (L 10) (σ 2) (σ 5) _ (σ 8) (σ 9) _
          rw [h2, h5, h8, h10, ← e2, ← e5]
          exact this
        refine stepsI_cons (fun L σ a w hL hW hS hI hs => ?_) ?_
        · have h10 := hS.not 10 8 (o := _) (by rfl) (by kernel_rfl) hL
          have h2 := hS 7 _ (by rfl) (hW 7 (by kernel_rfl)) 2 (by kernel_rfl)
          have h5 := hS 7 _ (by rfl) (hW 7 (by kernel_rfl)) 5 (by kernel_rfl)
          have h7 := hW 7 (by kernel_rfl)
          have hc := hI.c
          rw [hL, h10] at hc
          obtain ⟨e2, _, _⟩ := hc.p h2
          obtain ⟨e5, _, _⟩ := hc.e h5
          have e7 := hc.g h7
          have := hc.a8
          generalize hp : bk (σ 2) = p at *
          generalize hq : bk (σ 5) = q at *
          rw [e2, e5] at e7
          refine ⟨wanted_none rfl, wp_val (run_bx rfl (hs.ev 7 38 (by kernel_rfl) (by rfl) e7) (bx_tree _ _ _ _ _ _ _ _ _)) ⟨_, rfl, hI.pure (j := 8) trivial ?_⟩⟩
          rw [e2, e5] at this
          show NT n (.slice (some ⟨gn, 0, none⟩) n cn) W1 (L 2) (L 5) (L 7) true (L 9) (L 10) (σ 2) (σ 5) (σ 7) _ (σ 9) _
          rw [h10, e2, e5]
          exact this
        refine stepsI_cons (fun L σ a w hL hW hS hI hs => ?_) ?_
        · have h10 := hS.not 10 9 (o := _) (by rfl) (by kernel_rfl) hL
          have hc := hI.c
          rw [hL, h10] at hc
          refine ⟨wanted_none rfl, wp_val (run_al rfl (al_tp w)) ⟨_, rfl, hI.pure (j := 9) trivial ?_⟩⟩
          have := hc.a9
          show NT n (.slice (some ⟨gn, 0, none⟩) n cn) W1 (L 2) (L 5) (L 7) (L 8) true (L 10) (σ 2) (σ 5) (σ 7) (σ 8) _ _
          rw [h10]
          exact this
        refine stepsI_cons (fun L σ a w hL hW hS hI hs => ?_) ?_
        · have h2 := hW 2 (by kernel_rfl)
          have h5 := hW 5 (by kernel_rfl)
          have h8 := hW 8 (by kernel_rfl)
          have h9 := hW 9 (by kernel_rfl)
          have hc := hI.c
          rw [h2, h5, h8, h9, hL] at hc
          have e8 := (hc.t rfl).1
          have e9 := (hc.c rfl).1
          refine ⟨wanted_none rfl, wp_storeT rfl rfl (hs.ev 9 6 (by kernel_rfl) (by rfl) e9) (hs.ev 8 39 (by kernel_rfl) (by rfl) rfl) ⟨_, e8⟩ (blk_cell (j := 0) (hc.c rfl).2.2 rfl) (blk_free (hc.c rfl).2.2 _) ⟨_, rfl, hI.pure (j := 10) trivial ?_⟩⟩
          have := hc.a10
          show NT n (.slice (some ⟨gn, 0, none⟩) n cn) W1 (L 2) (L 5) (L 7) (L 8) (L 9) true (σ 2) (σ 5) (σ 7) (σ 8) (σ 9) _
          rw [h2, h5, h8, h9]
          exact this
        exact trivial
      case he =>
        intro σ W3 hI
        have hc : NT n (.slice (some ⟨gn, 0, none⟩) n cn) W1 true true true true true true (σ 2) (σ 5) (σ 7) (σ 8) (σ 9) W3 := hI.c
        generalize hF : fillL _ _ _ _ _ = F
        simp [fillL, dstOf, List.range, List.range.loop, Act.put] at hF
        subst hF
        obtain ⟨gp, ge, tb, pt, e2, e5, e8, e9, p1, p2, p3, p4, q1, q2, q3, q4, q5, q6, r1, r2, r3, r4⟩ : ∃ gp ge tb pt, σ 2 = .slice (some ⟨gp, 0, none⟩) n n ∧ σ 5 = .slice (some ⟨ge, 0, none⟩) n n ∧ σ 8 = .pointer (some ⟨tb, 0, none⟩) ∧ σ 9 = .pointer (some ⟨pt, 0, none⟩) ∧ W1.heap.size ≤ gp ∧ W1.heap.size ≤ ge ∧ W1.heap.size ≤ tb ∧ W1.heap.size ≤ pt ∧ gp ≠ ge ∧ gp ≠ tb ∧ gp ≠ pt ∧ ge ≠ tb ∧ ge ≠ pt ∧ tb ≠ pt ∧
            InR gp n (fun _ => -1) W3 ∧ InR ge n (fun _ => 0) W3 ∧ W3.heap[tb]? = some (.cells #[.slice none 0 0, .slice (some ⟨gp, 0, none⟩) n n, .slice (some ⟨ge, 0, none⟩) n n, .slice (some ⟨gn, 0, none⟩) n cn] 52 (0, 0)) ∧ W3.heap[pt]? = some (.cells #[.pointer (some ⟨tb, 0, none⟩)] 25 (0, 0)) := by
          obtain ⟨a1, a2, a3⟩ := hc.p rfl
          obtain ⟨b1, b2, b3⟩ := hc.e rfl
          obtain ⟨c1, c2, c3⟩ := hc.t rfl
          obtain ⟨d1, d2, d3⟩ := hc.c rfl
          have h4 := hc.n25 rfl rfl
          have h5 := hc.n28 rfl rfl
          have h6 := hc.n29 rfl rfl
          have h7 := hc.n58 rfl rfl
          have h8 := hc.n59 rfl rfl
          have h9 := hc.n89 rfl rfl
          simp only [cond_true] at d3
          generalize bk (σ 2) = x2 at *
          generalize bk (σ 5) = x5 at *
          generalize bk (σ 8) = x8 at *
          generalize bk (σ 9) = x9 at *
          rw [a1, b1] at c3
          rw [c1] at d3
          exact ⟨x2, x5, x8, x9, a1, b1, c1, d1, a2, b2, c2, d2, h4, h5, h6, h7, h8, h9, a3, b3, c3, d3⟩
        rw [e8, e9, e2, e5]
        have hf3 := Lib.hid hc.fr
        have hz3 : Hid (pt < W3.heap.size ∧ tb < W3.heap.size ∧ gp < W3.heap.size ∧ ge < W3.heap.size) := Lib.hid ⟨hlt r4, hlt r3, r1.lt, r2.lt⟩
        replace r1 := Lib.hid r1
        replace r2 := Lib.hid r2
        replace r3 := Lib.hid r3
        replace r4 := Lib.hid r4
        clear hI hc e2 e5 e8 e9
        go_wp2_with fail
        generalize hW4 : W3.alloc _ = W4
        have hb4 : Below W3.heap.size W3 W4 := hW4 ▸ b_alloc _ _
        have hz4 : W4.heap.size = W3.heap.size + 1 := by rw [← hW4]; simp
        have cS : W4.cell? ⟨W3.heap.size, 0, none⟩ = some (.func (.func 35) #[] #[.pointer (some ⟨pt, 0, none⟩), .pointer (some ⟨w.heap.size + 1, 0, none⟩), .pointer (some ⟨W3.heap.size, 0, none⟩)]) := by
          rw [← hW4]
          exact blk_cell (j := 0) (blk_new _ _ rfl) rfl
        have hzW : W1.heap.size = wr.heap.size := by rw [hW1.out]; rfl
        have f4 : Fr (fun i => wr.heap.size ≤ i) wr W4 := (hd0.out.mono (fun i _ e => e.elim)).trans ((hf3.out.mono (fun i _ e => by omega)).trans (Fr.of_below hb4))
        have hgk' := hgk.out
        have hsz' := hszr.out
        obtain ⟨z1, z2, z3, z4⟩ := hz3.out
        have hGr : GrM W4.heap.size pt (w.heap.size + 1) W3.heap.size tb gp ge gk n (.slice (some ⟨gn, 0, none⟩) n cn) ⟨[], fun _ => -1, fun _ => 0⟩ W4 :=
          ⟨blk_cell (j := 0) ((hb4.block pt z1).trans r4.out) rfl, f4.cell (by omega) hkc.out, cS, ⟨_, (hb4.block tb z2).trans r3.out, World.ownsRow_nil _ _ _ _⟩, r1.out.at_ (hb4.block _ r1.out.lt), r2.out.at_ (hb4.block _ r2.out.lt),
            ⟨by omega, by omega, by omega, by omega, by omega, by omega, Nat.le_refl _⟩, ⟨by omega, by omega, by omega, by omega, by omega, by omega, by omega, by omega, by omega, by omega, by omega, by omega⟩, hn⟩
        have hKd : KdM W4.heap.size gk n tb gp ge (kidsP next n) W4 := by
          refine ⟨fun k hk => ?_, ⟨by omega, by omega, by omega, by omega⟩⟩
          obtain ⟨a, cap, hcell, _, _, hrow⟩ := hS.out.get hk
          exact ⟨a, cap, f4.cell (by omega) hcell, ((row_lt hrow).mono (S' := fun b => b < wr.heap.size) fun b hb => hb).below (fun b o v hb hc => f4.cell (by omega) hc) |>.mono fun b hb => ⟨by omega, by omega, by omega, by omega⟩⟩
        have hht : ∀ b, b < n → ∀ k ∈ kidsP next n b, 0 ≤ k ∧ k < (n : Int) ∧ ht k.toNat < ht b := fun b hb k hk => by
          obtain ⟨y, rfl, hy, hny⟩ := kidsP_in next b n k hk
          rcases hnx y hy with h | ⟨p, h, hp, hlt⟩
          · rw [h] at hny; omega
          · have : p = b := by omega
            subst this
            exact ⟨by omega, by omega, by simpa using hlt⟩
        have hcall := stand_c (kidsP next n) W4.heap.size pt (w.heap.size + 1) W3.heap.size tb gp ge gk n (.slice (some ⟨gn, 0, none⟩) n cn) ht hht (n + 1) ⟨[], fun _ => -1, fun _ => 0⟩ 0 W4 hGr hKd hn0 (by omega) hlen1.out
        rw [show ((0 : Nat) : Int) = 0 from rfl] at hcall
        have hbl := Lib.hid (hb1.out.trans ((hf.out.below (n := gk) (by have := hz1.out; omega) (fun i e => by omega)).trans (f4.below (n := gk) (by omega) (fun i e => by omega))))
        have hnx4 := Lib.hid (f4.inr (hf.out.inr hg0.out (by omega)) (by have := (hf.out.inr hg0.out (by omega)).lt; omega))
        have hgn4 : Hid (gn < gk ∧ gk ≤ tb ∧ gk ≤ gp ∧ gk ≤ ge ∧ gk ≤ W4.heap.size) := Lib.hid ⟨hgl, by omega, by omega, by omega, by omega⟩
        replace hcall := Lib.hid hcall
        clear hGr hKd hht hW4 hb4 hz4 cS hzW f4 hgk' hsz' hz3 r1 r2 r3 r4 hf3 hkc hS hf hg0 cK0 hb1 hnx hlen1 hW1 hd0 hz1 hszr
        refine hcall.out.mono ?_
        rintro e W5 ⟨rfl, hf5, hM5⟩
        clear hcall
        have cT5 := hM5.cT
        replace hf5 := Lib.hid hf5
        replace hM5 := Lib.hid hM5
        go_wp2_with fail
        go_ret
        obtain ⟨v0, ht5, ho5⟩ := hM5.out.ex
        obtain ⟨oa, oc, rfl, hrow⟩ := row_own1 ho5
        have hgk' := hgk.out
        obtain ⟨z1, z2, z3, z4, z5⟩ := hgn4.out
        obtain ⟨k1, k2, k3, k4, k5, k6, k7⟩ := hM5.out.lt
        refine ⟨tb, gp, ge, oa, oc, rfl, ⟨blk_cell (j := 0) ht5 rfl, blk_cell (j := 1) ht5 rfl, blk_cell (j := 2) ht5 rfl, blk_cell (j := 3) ht5 rfl, hM5.out.place, hM5.out.end_, hf5.out.inr hnx4.out (by omega), hrow, ⟨hn, Nat.le_refl _, by show n ≤ maxLen; omega, Nat.le_refl _, by show n ≤ maxLen; omega, hcn1, hcn2⟩⟩, by omega, ?_⟩
        rw [← hgk']
        exact hbl.out.trans (hf5.out.below (n := gk) z5 (fun i e => by omega))
end Go.Proofs.Ytiaecobjbckhoaa.Db
