/- Walk of DomTree. Conditions: the graph, and the way, lie in memory. -/
import Derived.Test.YtiaecobjbckhoaaDnF
import Derived.Test.YtiaecobjbckhoaaDoF
set_option linter.unusedVariables false
set_option linter.unusedSimpArgs false
namespace Go.Proofs.Ytiaecobjbckhoaa.Db
open Go Go.RowKit
open Go.WideShapes Go.MapKept

theorem set_below {w1 wr : World} {g : Nat} (h : Below w1.heap.size w1 wr) (hg : w1.heap.size ≤ g) (o : Nat) (v : Value) : Below w1.heap.size w1 (wr.setCell ⟨g, o, none⟩ v) := h.setCell hg v
/-- a way in memory -/
structure Wy (a : Option Addr) (cap : Nat) (l : List Int) (w : World) : Prop where
  row : RowAt w (fun b => b < w.heap.size) a cap l.length (l.map (Value.int .u8))
  u8 : ∀ x ∈ l, 0 ≤ x ∧ x ≤ 255
set_option maxHeartbeats 16000000 in
set_option maxRecDepth 100000 in
theorem domTree_law (T : List Tl) (ta : Option Addr) (tcap : Nat) (way : List Int) (wa : Option Addr) (wcap : Nat) (w : World) (hg : ToM w.heap.size ta tcap T w) (hy : Wy wa wcap way w) :
    Calls Try.prog 5 #[.slice ta T.length tcap, .slice wa way.length wcap] w fun e w' => e = .returned (.bool true) ∧ Below w.heap.size w w' := by
  have hlc := Lib.hid (long_c T.length tcap ta w rfl hg)
  have haw := Lib.hid (fun V => awake_c V)
  obtain ⟨hc3, hc4⟩ := len_i hy.row
  rcases hl : longP T with _ | _
  · rw [hl] at hlc
    by_cases h200 : 200 < way.length
    · have h200' : (200 : Int) < (way.length : Int) := by omega
      clear hl hg hy h200
      go_enter Try.func5, Try.ntmps5
      go_wp2_with fail
      refine hlc.out.mono ?_
      rintro e w1 ⟨rfl, rfl⟩
      clear hlc
      go_wp2_with fail
      refine (haw.out _).mono ?_
      rintro e w2 ⟨rfl, hb2⟩
      replace hb2 := Lib.hid hb2
      go_wp2_with fail
      go_ret
      exact ⟨rfl, hb2.out⟩
    · have h200' : ¬ ((200 : Int) < (way.length : Int)) := by omega
      have hw200 : way.length ≤ 200 := by omega
      have hof := Lib.hid (fun V (hb : Below w.heap.size w V) => of_law (T := T) T.length tcap ta V rfl ⟨(hg.keep hb).row.mono fun _ h => Nat.lt_of_lt_of_le h hb.size, fun x hx => ((hg.keep hb).rows x hx).mono fun _ h => Nat.lt_of_lt_of_le h hb.size⟩ hl)
      obtain ⟨hc1, hc2⟩ := len_i hg.row
      have h40 := (long_no hl).1
      have h60 := Lib.hid (long_no hl).2.1
      replace hg := Lib.hid hg
      replace hy := Lib.hid hy
      have hTn := Lib.hid (rfl : T.length = T.length)
      clear hl h200
      generalize hn : T.length = n at hof hlc hc1 h40 hTn ⊢
      replace hn := Lib.hid hn
      clear hTn
      go_enter Try.func5, Try.ntmps5
      go_wp2_with fail
      refine hlc.out.mono ?_
      rintro e w1 ⟨rfl, hw1⟩
      have hw2 := hw1.symm
      subst hw2
      clear hlc hw1
      go_wp2_with fail
      refine (haw.out _).mono ?_
      rintro e w2 ⟨rfl, hb2⟩
      have hof2 := Lib.hid (hof.out w2 hb2)
      replace hb2 := Lib.hid hb2
      clear hof
      go_wp2_with fail
      refine hof2.out.mono ?_
      rintro e w3 ⟨hb3, ⟨hm, rfl⟩ | ⟨hm, H, tb, rfl, htb, hA⟩⟩
      · replace hm := Lib.hid hm
        have hb4 := Lib.hid (hb2.out.trans (hb3.mono hb2.out.size))
        clear hb3 hb2 hof2
        go_wp2_with fail
        go_ret
        exact ⟨rfl, hb4.out⟩
      · have hb4 := Lib.hid (hb2.out.trans (hb3.mono hb2.out.size))
        replace hA := Lib.hid hA
        have hend : Hid (∀ V, Below w3.heap.size w3 V → Below w.heap.size w V) := Lib.hid fun V h => hb4.out.trans (h.mono hb4.out.size)
        have Hn0 := H.hn
        have q1 := Lib.hid (fun (b : Nat) => (Hn0.reach b))
        have q2 : Hid (∀ a : Nat, Un n (nxt n T) 0 a → (tre n T).nextP (a : Int) = nxt n T a) := Lib.hid fun a h => by
          unfold Tp.nextP
          rw [if_pos (show (tre n T).reach (a : Int) = true from (Hn0.reach a).2 h), Int.toNat_natCast]
          rfl
        have q3 := Lib.hid (fun i x h => Hn0.row (i := i) (x := x) h)
        have q4 := Lib.hid Hn0.order_cnt
        have q5 := Lib.hid (fun b f f' h hb hf => Hn0 |> fun H => Chn.fin H (b := b) (f := f) (f' := f') h hb hf)
        have q6 := Lib.hid (fun (a b : Nat) => H.above a b)
        have q7 := Lib.hid (fun (b : Nat) => H.reach b)
        have q8 := Lib.hid (fun (b : Nat) (hb : b < n) => H.in_ b hb)
        have hn0 := H.pos
        change Hid (∀ b : Nat, (tre n T).reach (b : Int) = true ↔ Un n (nxt n T) 0 b) at q1
        change Hid (∀ (i : Nat) (x : Int), (tre n T).order[i]? = some x → ∃ y : Nat, x = y ∧ y < n ∧ (tre n T).reach x = true ∧ x ∉ (tre n T).order.take i ∧ (i = 0 → y = 0) ∧ (0 < i → ∃ p : Nat, (tre n T).nextP x = p ∧ p < n ∧ (p : Int) ∈ (tre n T).order.take i)) at q3
        change Hid ((tre n T).order.length = cnt (fun b => (tre n T).reach (b : Int)) n) at q4
        change Hid (∀ (b : Nat) (f f' : Nat → Bool), Chn n (nxt n T) b 0 f → Un n (nxt n T) 0 b → (∀ i, i < n → f' i = if i = 0 then true else f i) → ∀ x, x < n → f' x = (tre n T).above (x : Int) (b : Int)) at q5
        generalize tre n T = t at *
        replace hm := Lib.hid hm
        replace H := Lib.hid Hn0
        have hmk := fun V => make_bb n (by omega) V
        clear hb3 hb2 hof2 haw htb hm Hn0
        have hrel0 : Hid (Below w3.heap.size w3 w3) := Lib.hid (Below.refl _ _)
        have hn1 : (0 : Int) < (n : Int) := by omega
        go_wp2_with fail
        go_loopw [7, 8] (fun r i wr => ∃ k : Nat, k ≤ n ∧ i = .int .i64 k ∧ r = .int .i64 (cnt (fun b => t.reach (b : Int)) k : Nat) ∧ Hid (Below w3.heap.size w3 wr)) (fun _ i _ => n - (intOf i).toNat)
        case atStart => exact ⟨0, Nat.zero_le _, rfl, rfl, hrel0⟩
        case round =>
          clear hrel0
          obtain ⟨k, hk, rfl, rfl, hb⟩ := hrel
          have hcl := cnt_le (fun b => t.reach (b : Int)) k
          by_cases hkn : k < n
          · have hcs : Hid (cnt (fun b => t.reach (b : Int)) (k + 1) = cnt (fun b => t.reach (b : Int)) k + (if t.reach (k : Int) = true then 1 else 0)) := Lib.hid rfl
            have hk1 : (k : Int) < (n : Int) := by omega
            generalize hcc : cnt (fun b => t.reach (b : Int)) k = c at *
            replace hcc := Lib.hid hcc
            rcases hrk : t.reach (k : Int) with _ | _
            · rw [hrk] at hcs
              clear q3 q4 q5 q6 q7 q8
              go_wp2_with fail
              refine (hA.out.re _ _ hb).mono ?_
              rintro _ _ ⟨rfl, rfl⟩
              go_wp2_with fail
              go_roundw
              case rel => exact ⟨k + 1, by omega, by go_num, by rw [hcs.out]; rfl, hb⟩
              case measure => simp [intOf]; omega
            · rw [hrk] at hcs
              have hu := (q1.out k).1 hrk
              clear q3 q4 q6 q7 q8 q1
              go_wp2_with fail
              refine (hA.out.re _ _ hb).mono ?_
              rintro _ w4 ⟨rfl, hw4⟩
              subst hw4
              go_wp2_with fail
              replace hrk := Lib.hid hrk
              obtain ⟨w5, hw5⟩ : ∃ w5, w5 = w4.alloc (.cells (Array.replicate n (Value.bool false)) 4) := ⟨_, rfl⟩
              rw [← hw5]
              have hb5 : Below w3.heap.size w3 w5 := by rw [hw5]; exact hb.out.trans ((b_alloc _ _).mono hb.out.size)
              have hM5 : MkB w4.heap.size n (fun _ => false) w5 := by rw [hw5]; exact MkB.start w4 n
              have hz4 := hb.out.size
              have hst : Hid (Un n (nxt n T) k k ∧ 0 + hgt n T k ≤ hgt n T k ∧ MkB w4.heap.size n (fun _ => false) w5 ∧ Chn n (nxt n T) k k (fun _ => false) ∧ Below w3.heap.size w3 w5) := Lib.hid ⟨.here, by omega, hM5, Chn.start k H.out, hb5⟩
              replace hw5 := Lib.hid hw5
              replace hu := Lib.hid hu
              clear hb5 hM5 hmk
              generalize hgv : w4.heap.size = gv at *
              replace hgv := Lib.hid hgv
              replace hz4 := Lib.hid hz4
              go_loopw [10, 11] (fun a c wr => ∃ (x i : Nat) (f : Nat → Bool), a = .int .i64 x ∧ c = .int .i64 i ∧ x < n ∧ i ≤ n ∧ Hid (Un n (nxt n T) x k ∧ i + hgt n T k ≤ hgt n T x ∧ MkB gv n f wr ∧ Chn n (nxt n T) k x f ∧ Below w3.heap.size w3 wr)) (fun _ c _ => n + 1 - (intOf c).toNat)
              case atStart => exact ⟨k, 0, _, rfl, rfl, hkn, Nat.zero_le _, hst⟩
              case round =>
                clear hst
                obtain ⟨x, i, f, rfl, rfl, hxn, hin, hX⟩ := hrel
                have hle : ((i : Int) ≤ (n : Int)) := by omega
                have hx1 : (x : Int) < (n : Int) := by omega
                have hx0 : (0 : Int) ≤ (x : Int) := by omega
                obtain ⟨c1, c2⟩ := hX.out.2.2.1.get hxn
                by_cases hx : x = 0
                · have hxz : ¬ ((0 : Int) < (x : Int)) := by omega
                  obtain ⟨d1, d2⟩ := hX.out.2.2.1.get hn0
                  have hfin := hX.out.2.2.2.1
                  rw [hx] at hfin
                  have hM6 : MkB gv n (fun a => t.above (a : Int) (k : Int)) (wr.setCell ⟨gv, 0, none⟩ (.bool true)) := (hX.out.2.2.1.set hn0 (fun j => if j = 0 then true else f j) (fun _ _ => rfl)).cong fun j hj => q5.out k f _ hfin hu.out (fun _ _ => rfl) j hj
                  have hst3 : Hid (MkB gv n (fun a => t.above (a : Int) (k : Int)) (wr.setCell ⟨gv, 0, none⟩ (.bool true)) ∧ Below w3.heap.size w3 (wr.setCell ⟨gv, 0, none⟩ (.bool true))) := Lib.hid ⟨hM6, hX.out.2.2.2.2.setCell hz4.out _⟩
                  have hxe : (x : Int) = 0 := by omega
                  clear c1 c2 hX hfin hM6 hx
                  go_wp2_with fail
                  generalize wr.setCell ⟨gv, 0, none⟩ (.bool true) = w6 at *
                  clear d1 d2
                  go_loopw [12] (fun a wr => ∃ j : Nat, j ≤ n ∧ a = .int .i64 j ∧ Hid (MkB gv n (fun a => t.above (a : Int) (k : Int)) wr ∧ Below w3.heap.size w3 wr)) (fun a _ => n - (intOf a).toNat)
                  case atStart => exact ⟨0, Nat.zero_le _, rfl, hst3⟩
                  case round =>
                    clear hst3
                    obtain ⟨j, hj, rfl, hX⟩ := hrel
                    by_cases hjn : j < n
                    · obtain ⟨c1, _⟩ := hX.out.1.get hjn
                      have hj1 : (j : Int) < (n : Int) := by omega
                      have hj0 : (0 : Int) ≤ (j : Int) := by omega
                      have hca := Lib.hid (fun m => hA.out.abq (j : Int) (k : Int) (wr.drewN m) (below_q (Lib.hid hX.out.2) m))
                      have hst4 : Hid (∀ m, MkB gv n (fun a => t.above (a : Int) (k : Int)) (wr.drewN m) ∧ Below w3.heap.size w3 (wr.drewN m)) := Lib.hid fun m => ⟨hX.out.1.keep (below_drawN _ _), hX.out.2.trans ((below_drawN _ _).mono hX.out.2.size)⟩
                      clear hX
                      go_wp2_with fail
                      go_quiet (first | with_reducible exact Calls.quiet_of (hca.out _))
                      have hst5 := Lib.hid (hst4.out nq)
                      generalize wr.drewN nq = V2 at *
                      go_wp2_with fail
                      go_roundw
                      case rel => exact ⟨j + 1, by omega, by go_num, hst5⟩
                      case measure => simp [intOf]; omega
                    · have hjn2 : ¬ ((j : Int) < (n : Int)) := by omega
                      have hb6 := Lib.hid hX.out.2
                      clear hX
                      go_wp2_with fail
                      go_roundw
                      case rel => exact ⟨k + 1, by omega, by go_num, by rw [hcs.out]; go_num, hb6⟩
                      case measure => simp [intOf]; omega
                · have hxz : (0 : Int) < (x : Int) := by omega
                  have hux := Lib.hid (hX.out.1.top H.out hu.out)
                  obtain ⟨p, p1, p2, p3, _, p5⟩ := H.out.nx_some hux.out hx
                  have hnx := q2.out x hux.out
                  rw [p1] at hnx
                  have hst2 : Hid (Un n (nxt n T) p k ∧ (i + 1) + hgt n T k ≤ hgt n T p ∧ MkB gv n (fun j => if j = x then true else f j) (wr.setCell ⟨gv, x, none⟩ (.bool true)) ∧ Chn n (nxt n T) k p (fun j => if j = x then true else f j) ∧ Below w3.heap.size w3 (wr.setCell ⟨gv, x, none⟩ (.bool true))) :=
                    Lib.hid ⟨(Un.step hxn p1 .here).trans hX.out.1, by have := hX.out.2.1; omega, hX.out.2.2.1.set hxn _ (fun _ _ => rfl), hX.out.2.2.2.1.step H.out hX.out.1 hxn p1 p3 (fun _ _ => rfl), hX.out.2.2.2.2.setCell hz4.out _⟩
                  have hin2 : Hid (i + 1 ≤ n) := Lib.hid (by have h1 := hst2.out.2.1; have h2 := H.out.le p; omega)
                  have hnc := Lib.hid (hA.out.nx (x : Int) _ (Lib.hid hst2.out.2.2.2.2))
                  rw [hnx] at hnc
                  clear hX hux p1 p3 p5 hnx
                  go_wp2_with fail
                  refine hnc.out.mono ?_
                  rintro _ w6 ⟨rfl, hw6⟩
                  rw [← hw6] at hst2
                  clear hw6 hnc c1 c2
                  go_wp2_with fail
                  go_roundw
                  case rel => exact ⟨p, i + 1, _, rfl, by go_num, p2, hin2.out, hst2⟩
                  case measure => simp [intOf]; have := hin2.out; omega
          · have hkn2 : k = n := by omega
            rw [hkn2] at hkn hcl
            subst hkn2
            have hcc := q4.out
            have hn0' : 0 < k := hn0
            rw [← hcc] at hcl ⊢
            clear q5 q2 hkn hcc
            replace q4 := Lib.hid q4
            go_wp2_with fail
            refine (hA.out.od _ hb).mono ?_
            rintro _ w5 ⟨v, rfl, ho, hb5⟩
            obtain ⟨oa, oc, rfl, hr⟩ := row_own1 ho
            obtain ⟨o1, o2⟩ := len_i hr
            have hr5 := row_lt hr
            have hb6 := Lib.hid (hb.out.trans (hb5.mono hb.out.size))
            generalize t.order = l at *
            obtain ⟨w6, hw6⟩ : ∃ w6, w6 = w5.alloc (.cells (Array.replicate k (Value.bool false)) 4) := ⟨_, rfl⟩
            have hM6 : MkB w5.heap.size k (fun _ => false) w6 := by rw [hw6]; exact MkB.start w5 k
            have hb7 : Below w5.heap.size w5 w6 := by rw [hw6]; exact b_alloc _ _
            have hst : Hid (MkB w5.heap.size k (fun _ => false) w6 ∧ (∀ x, x < k → ((fun _ => false) x = true ↔ (x : Int) ∈ l.take 0)) ∧ Below w5.heap.size w5 w6) := Lib.hid ⟨hM6, fun x _ => by simp, hb7⟩
            replace hr5 := Lib.hid hr5
            clear hM6 hb7 hb5 hb ho hr
            go_wp2_with fail
            rw [← hw6]
            replace hw6 := Lib.hid hw6
            generalize hgs : w5.heap.size = gs at *
            replace hgs := Lib.hid hgs
            go_loopw [15] (fun i wr => ∃ (j : Nat) (f : Nat → Bool), j ≤ l.length ∧ i = .int .i64 j ∧ Hid (MkB gs k f wr ∧ (∀ x, x < k → (f x = true ↔ (x : Int) ∈ l.take j)) ∧ Below gs w5 wr)) (fun i _ => l.length - (intOf i).toNat)
            case atStart => exact ⟨0, _, Nat.zero_le _, rfl, hst⟩
            case round =>
              clear hst
              obtain ⟨j, f, hj, rfl, hX⟩ := hrel
              by_cases hjl : j < l.length
              · obtain ⟨x, hx⟩ : ∃ x, l[j]? = some x := ⟨_, List.getElem?_eq_getElem hjl⟩
                obtain ⟨y, rfl, y1, y2, y3, y4, y5⟩ := q3.out j x hx
                have hrV : RowAt wr Tt oa oc l.length (numCells l) := ((hr5.out).below (kps_below hX.out.2.2)).mono fun _ _ => trivial
                obtain ⟨b, off, rfl, _, hcell⟩ := num_row hrV j _ hx
                obtain ⟨c1, c2⟩ := hX.out.1.get y1
                have hfy : f y = false := by
                  rcases h : f y with _ | _
                  · rfl
                  · exact absurd ((hX.out.2.1 y y1).1 h) y3
                rw [hfy] at c1
                have htk : l.take (j + 1) = l.take j ++ [(y : Int)] := by rw [List.take_add_one, hx]; rfl
                have hst2 : Hid (∀ V : World, MkB gs k f V → Below gs w5 V → (MkB gs k (fun i => if i = y then true else f i) (V.setCell ⟨gs, y, none⟩ (.bool true)) ∧ (∀ x, x < k → ((fun i => if i = y then true else f i) x = true ↔ (x : Int) ∈ l.take (j + 1))) ∧ Below gs w5 (V.setCell ⟨gs, y, none⟩ (.bool true)))) := Lib.hid fun V h1 h2 => ⟨h1.set y1 _ (fun _ _ => rfl), fun x hx => by
                  rw [htk, List.mem_append, List.mem_singleton, ← hX.out.2.1 x hx]
                  by_cases e : x = y
                  · subst e; simp
                  · have : ¬ ((x : Int) = (y : Int)) := by omega
                    simp [e, this], h2.setCell (Nat.le_refl _) _⟩
                have hyn : (y : Int) < (k : Int) := by omega
                have hyn2 : ¬ ((k : Int) ≤ (y : Int)) := by omega
                have hy0 : (0 : Int) ≤ (y : Int) := by omega
                have hy00 : ¬ ((y : Int) < 0) := by omega
                have hj1 : (j : Int) < (l.length : Int) := by omega
                have hj0 : (0 : Int) ≤ (j : Int) := by omega
                rcases Nat.eq_zero_or_pos j with hz | hpos
                · have hyz : ((y : Int) != 0) = false := by rw [y4 hz]; rfl
                  have hjp : decide ((0 : Int) < (j : Int)) = false := by simp; omega
                  have hjp2 : decide (0 < j) = false := by simp; omega
                  have hjp3 : (0 < j) = False := by simp; omega
                  have hje : ((j : Int) == 0) = true := by simp; omega
                  have hst3 := Lib.hid (hst2.out wr hX.out.1 hX.out.2.2)
                  clear hst2 hX hx htk y2 y3 y4 y5 hz hrV hfy
                  go_wp2_with fail
                  go_roundw
                  case rel => exact ⟨j + 1, _, by omega, by go_num, hst3⟩
                  case measure => simp [intOf]; omega
                · obtain ⟨p, p1, p2, p3⟩ := y5 hpos
                  obtain ⟨c3, _⟩ := hX.out.1.get p2
                  rw [(hX.out.2.1 p p2).2 p3] at c3
                  have hp1 : (p : Int) < (k : Int) := by omega
                  have hp0 : (0 : Int) ≤ (p : Int) := by omega
                  have hjp : (0 : Int) < (j : Int) := by omega
                  have hje : ((j : Int) == 0) = false := by simp; omega
                  have hnc := Lib.hid (hA.out.nx (y : Int) wr (Lib.hid (hb6.out.trans ((by rw [hgs.out]; exact hX.out.2.2 : Below w5.heap.size w5 wr).mono hb6.out.size))))
                  rw [p1] at hnc
                  have hst3 := Lib.hid (hst2.out wr hX.out.1 hX.out.2.2)
                  clear hst2 hX hx htk y2 y3 y4 y5 hrV hfy p1 p3
                  go_wp2_with fail
                  refine hnc.out.mono ?_
                  rintro _ w7 ⟨rfl, hw7⟩
                  subst hw7
                  clear hnc
                  go_wp2_with fail
                  go_roundw
                  case rel => exact ⟨j + 1, _, by omega, by go_num, hst3⟩
                  case measure => simp [intOf]; omega
              · have hjl2 : ¬ ((j : Int) < (l.length : Int)) := by omega
                have hb8 := Lib.hid (hb6.out.trans ((by rw [hgs.out]; exact hX.out.2.2 : Below w5.heap.size w5 wr).mono hb6.out.size))
                clear hX q3 hr5
                go_wp2_with fail
                obtain ⟨w8, hw8⟩ : ∃ w8, w8 = wr.alloc (.cells (Array.replicate k (Value.bool false)) 4) := ⟨_, rfl⟩
                rw [← hw8]
                have hM8 : MkB wr.heap.size k (fun _ => false) w8 := by rw [hw8]; exact MkB.start wr k
                have hb9 : Below w3.heap.size w3 w8 := by rw [hw8]; exact hb8.out.trans ((b_alloc _ _).mono hb8.out.size)
                have hz8 := Lib.hid hb8.out.size
                replace hw8 := Lib.hid hw8
                generalize hgg : wr.heap.size = gg at *
                replace hgg := Lib.hid hgg
                have hst : Hid (Cm (tos T) (fun _ => True) 0 ∧ MkB gg k (fun _ => false) w8 ∧ (∀ y, y < k → (fun _ => false) y = false → y ≠ 0 → Cm (tos T) (fun z => z ≠ y) 0) ∧ Below w3.heap.size w3 w8) := Lib.hid ⟨.start trivial, hM8, fun y _ _ h => .start fun e => h e.symm, hb9⟩
                clear hM8 hb9 hb8 hmk
                go_loopw [17, 18] (fun a c wr => ∃ (x j : Nat) (f : Nat → Bool), a = .int .i64 x ∧ c = .int .i64 j ∧ x < k ∧ j ≤ way.length ∧ Hid (Cm (tos T) (fun _ => True) x ∧ MkB gg k f wr ∧ (∀ y, y < k → f y = false → y ≠ x → Cm (tos T) (fun z => z ≠ y) x) ∧ Below w3.heap.size w3 wr)) (fun _ c _ => way.length + 1 - (intOf c).toNat)
                case atStart => exact ⟨0, 0, _, rfl, rfl, hn0', Nat.zero_le _, hst⟩
                case round =>
                  clear hst
                  obtain ⟨x, j, f, rfl, rfl, hxk, hjw, hX⟩ := hrel
                  have hle : ((j : Int) ≤ (way.length : Int)) := by omega
                  have hx1 : (x : Int) < (k : Int) := by omega
                  have hx0 : (0 : Int) ≤ (x : Int) := by omega
                  obtain ⟨c1, c2⟩ := hX.out.2.1.get hxk
                  obtain ⟨fx, hfx⟩ : ∃ fx : Nat → Bool, fx = fun i => if i = x then true else f i := ⟨_, rfl⟩
                  have hcx : Hid (Cm (tos T) (fun _ => True) x) := Lib.hid hX.out.1
                  have hfe : Hid (∀ y, y < k → fx y = false → Cm (tos T) (fun z => z ≠ y) x) := Lib.hid fun y hy h => by
                    rw [hfx] at h
                    by_cases e : y = x
                    · simp [e] at h
                    · simp only [if_neg e] at h
                      exact hX.out.2.2.1 y hy h e
                  have hst2 : Hid (MkB gg k fx (wr.setCell ⟨gg, x, none⟩ (.bool true)) ∧ Below w3.heap.size w3 (wr.setCell ⟨gg, x, none⟩ (.bool true))) := Lib.hid ⟨hX.out.2.1.set hxk _ (fun _ _ => by rw [hfx]), hX.out.2.2.2.setCell hz8.out _⟩
                  have hrx : t.reach (x : Int) = true := (q7.out x).2 hX.out.1
                  clear hX hfx
                  go_wp2_with fail
                  generalize wr.setCell ⟨gg, x, none⟩ (.bool true) = w9 at *
                  clear c1 c2
                  go_loopw [19] (fun i wr => ∃ a : Nat, a ≤ k ∧ i = .int .i64 a ∧ Hid (MkB gg k fx wr ∧ Below w3.heap.size w3 wr)) (fun i _ => k - (intOf i).toNat)
                  case atStart => exact ⟨0, Nat.zero_le _, rfl, hst2⟩
                  case round =>
                    clear hst2
                    obtain ⟨a, ha, rfl, hX⟩ := hrel
                    by_cases hak : a < k
                    · obtain ⟨c1, _⟩ := hX.out.1.get hak
                      have ha1 : (a : Int) < (k : Int) := by omega
                      have ha0 : (0 : Int) ≤ (a : Int) := by omega
                      rcases hab : t.above (a : Int) (x : Int) with _ | _
                      · go_wp2_with fail
                        refine (hA.out.re _ _ (Lib.hid hX.out.2)).mono ?_
                        rintro _ w10 ⟨rfl, hw10⟩
                        subst hw10
                        go_wp2_with fail
                        refine (hA.out.ab _ _ _ (Lib.hid hX.out.2)).mono ?_
                        rintro _ w11 ⟨rfl, hw11, hw12⟩
                        have hst3 := Lib.hid (⟨hX.out.1.keep hw11.out.1, hw12.out⟩ : MkB gg k fx w11 ∧ Below w3.heap.size w3 w11)
                        clear hX hw11 hw12 c1
                        go_wp2_with fail
                        go_roundw
                        case rel => exact ⟨a + 1, by omega, by go_num, hst3⟩
                        case measure => simp [intOf]; omega
                      · have hfa : fx a = true := by
                          rcases h : fx a with _ | _
                          · exact absurd (hfe.out a hak h) ((q6.out a x).1 hab).2
                          · rfl
                        rw [hfa] at c1
                        go_wp2_with fail
                        refine (hA.out.re _ _ (Lib.hid hX.out.2)).mono ?_
                        rintro _ w10 ⟨rfl, hw10⟩
                        subst hw10
                        go_wp2_with fail
                        refine (hA.out.ab _ _ _ (Lib.hid hX.out.2)).mono ?_
                        rintro _ w11 ⟨rfl, hw11, hw12⟩
                        have hst3 := Lib.hid (⟨hX.out.1.keep hw11.out.1, hw12.out⟩ : MkB gg k fx w11 ∧ Below w3.heap.size w3 w11)
                        have c3 := (hst3.out.1.get hak).1
                        rw [hfa] at c3
                        clear hX hw11 hw12 c1
                        go_wp2_with fail
                        go_roundw
                        case rel => exact ⟨a + 1, by omega, by go_num, hst3⟩
                        case measure => simp [intOf]; omega
                    · have hak2 : ¬ ((a : Int) < (k : Int)) := by omega
                      have hgV := hg.out.keep (hend.out wr hX.out.2)
                      obtain ⟨e, he⟩ : ∃ e, T[x]? = some e := ⟨_, List.getElem?_eq_getElem (by rw [hn.out]; exact hxk)⟩
                      obtain ⟨b1, off1, hta, _, hc1⟩ := tl_row hgV.row x e he
                      obtain ⟨e1, e2⟩ := len_i (hgV.rows e (List.mem_of_getElem? he))
                      have htos : tos T x = e.l := by unfold tos; rw [List.getD_eq_getElem?_getD, he]; rfl
                      have he60 : e.l.length ≤ 60 := by rw [← htos]; exact h60.out x
                      have hret : Hid (Below w.heap.size w wr) := Lib.hid (hend.out wr hX.out.2)
                      rcases Nat.lt_or_ge j way.length with hjw2 | hjw2
                      · have hje : ((j : Int) == (way.length : Int)) = false := by simp; omega
                        rcases Nat.eq_zero_or_pos e.l.length with hz | hpos
                        · have hle0 : ((e.l.length : Int) == 0) = true := by simp; exact List.length_eq_zero_iff.1 hz
                          have hle1 : e.l = [] := List.length_eq_zero_iff.1 hz
                          subst hta
                          clear hX hgV he htos hle1 hz
                          go_wp2_with fail
                          go_ret
                          exact ⟨by simp, hret.out⟩
                        · have hle0 : ((e.l.length : Int) == 0) = false := by simp; intro h; rw [h] at hpos; simp at hpos
                          obtain ⟨v, hv⟩ : ∃ v, way[j]? = some v := ⟨_, List.getElem?_eq_getElem hjw2⟩
                          obtain ⟨v1, v2⟩ := hy.out.u8 v (List.mem_of_getElem? hv)
                          obtain ⟨b2, off2, hwa, _, hc2⟩ := (hy.out.row.below (kps_below (hend.out wr hX.out.2))).at_ j (.int .u8 v) (by rw [List.getElem?_map, hv]; rfl)
                          obtain ⟨u, rfl⟩ : ∃ u : Nat, v = u := ⟨v.toNat, by omega⟩
                          obtain ⟨r, hr⟩ : ∃ r : Nat, r = u % e.l.length := ⟨_, rfl⟩
                          have hrl : r < e.l.length := by rw [hr]; exact Nat.mod_lt _ hpos
                          have hrem : Int.tmod (u : Int) (e.l.length : Int) = (r : Int) := by rw [hr]; rfl
                          obtain ⟨y, hye⟩ : ∃ y, e.l[r]? = some y := ⟨_, List.getElem?_eq_getElem hrl⟩
                          obtain ⟨b3, off3, hea, _, hc3⟩ := numS_row (hgV.rows e (List.mem_of_getElem? he)) r y hye
                          have hmem : y ∈ tos T x := by rw [htos]; exact List.mem_of_getElem? hye
                          obtain ⟨y1, y2⟩ := q8.out x hxk y hmem
                          obtain ⟨z, rfl⟩ : ∃ z : Nat, y = z := ⟨y.toNat, by omega⟩
                          have hst4 : Hid (∀ m, Cm (tos T) (fun _ => True) z ∧ MkB gg k fx (wr.drewN m) ∧ (∀ y, y < k → fx y = false → y ≠ z → Cm (tos T) (fun q => q ≠ y) z) ∧ Below w3.heap.size w3 (wr.drewN m)) := Lib.hid fun m => ⟨.go hcx.out hmem trivial, hX.out.1.keep (below_drawN _ _), fun y hy h hne => .go (hfe.out y hy h) hmem (fun e => hne e.symm), hX.out.2.trans ((below_drawN _ _).mono hX.out.2.size)⟩
                          have hzk : z < k := by omega
                          have hjl0 : (j : Int) < (way.length : Int) := by omega
                          have hjz : (0 : Int) ≤ (j : Int) := by omega
                          have hr0 : (0 : Int) ≤ (r : Int) := by omega
                          have hr1 : (r : Int) < (e.l.length : Int) := by omega
                          have hrh := Lib.hid hr
                          rw [hea] at hc1
                          subst hta hwa
                          clear hX hgV he htos hmem hye hv hr hea y1 y2 hcx hfe hpos
                          go_wp2_with fail
                          go_quiet (fail)
                          have hst5 := Lib.hid (hst4.out nq)
                          generalize wr.drewN nq = V2 at *
                          go_wp2_with fail
                          go_roundw
                          case rel => exact ⟨z, j + 1, fx, rfl, by go_num, hzk, by omega, hst5⟩
                          case measure => simp [intOf]; omega
                      · have hje : ((j : Int) == (way.length : Int)) = true := by simp; omega
                        have hjj : j = way.length := by omega
                        clear hX hgV he htos hjj
                        go_wp2_with fail
                        go_ret
                        exact ⟨by simp, hret.out⟩
  · rw [hl] at hlc
    clear hl hg hy
    go_enter Try.func5, Try.ntmps5
    go_wp2_with fail
    refine hlc.out.mono ?_
    rintro e w1 ⟨rfl, rfl⟩
    clear hlc
    go_wp2_with fail
    refine (haw.out _).mono ?_
    rintro e w2 ⟨rfl, hb2⟩
    replace hb2 := Lib.hid hb2
    go_wp2_with fail
    go_ret
    exact ⟨rfl, hb2.out⟩
end Go.Proofs.Ytiaecobjbckhoaa.Db
