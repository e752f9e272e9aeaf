/- append of a whole list to a list that the call builds, as one operation of a region by hand. Conditions: none. · The walk of TypesParts. Conditions: the program lies in memory, its bulk is at most 1048576, the variables that the packages read hold what they were laid with. · An argument that reads as an expression is one that lies in memory, no larger than the reading; and it reads on so in any world above. Conditions: none. · Arguments that read as statements, as declarations, are such that lie in memory, no larger than the reading. Conditions: none. -/
import Derived.Test.YtpcdlneompnhlaaGreatDoorTyBz
import Derived.Test.YtpcdlneompnhlaaGreatDoorLdA
import Derived.OpenShut
import Derived.Deep.Slices
namespace Go.Proofs.YtpcdlneompnhlaaGreatDoor.Ty
open Go Go.RowKit
open Go.Proofs.YtpcdlneompnhlaaGreatDoor.Lx Go.Proofs.YtpcdlneompnhlaaGreatDoor.Tr Go.Proofs.YtpcdlneompnhlaaGreatDoor.Pa

theorem op_append_L {P : Program} {o : Oper} {a : Act} {w : World} {K : Act → World → Prop} {Q : Exit → Act → World → Prop} {α : Type} (D : Kd α)
    (s x : Operand) (t : TypeId) (hop : o.op = Op.call { callee := Callee.builtin Builtin.append, args := #[s, x], argTypes := #[t, t] })
    (e : TypeId) (i : TypeInfo) (z : Value) (size bytes : Nat) (h1 : P.underlying t = some (.slice e)) (h2 : P.info? e = some i) (h3 : i.zero = some z) (h4 : i.size = size) (h5 : i.bytes = bytes) (h6 : z.cells.size = size) (h7 : 0 < size) (hD : D.c = size) (h1c : ∀ x, ∀ u ∈ D.vals x, u.oneCell' = true)
    (base : Nat) (v : Value) (l : List α) (hs : a.eval s = v) (hacc : AccS D e base w v l) (xs : List α) (ad : Addr) (c : Nat) (hx : a.eval x = .slice (some ad) xs.length c) (hrow : RowAt w (fun _ => True) (some ad) c xs.length (xs.flatMap D.vals)) (hel : ∀ y ∈ xs, D.In w (fun b => v.ownBlock ≠ some b) y)
    (hn : l.length + xs.length ≤ maxLen) (hby : (l.length + xs.length) * bytes ≤ 140737488355328) (hbase : base ≤ w.heap.size)
    (hK : ∀ v' w', AccS D e base w' v' (l ++ xs) → w.grownBy w' v.ownBlock → K (a.put o.dst v') w') :
    Oper.wp P o a w K Q := by
  subst hD
  obtain ⟨v', w', hr, r1, r2, _, r3⟩ := run_append_own_at (P := P) w base t o.type e i z D.c bytes h1 h2 h3 h4 h5 h6 h7 v l.length (l.flatMap D.vals) hacc.own ad xs.length c (xs.flatMap D.vals) (flat_length D xs) (fun j u hu => by
      obtain ⟨b, off, ha, _, hcell⟩ := hrow.at_ j u hu
      obtain rfl := Option.some.inj ha
      rw [Go.WideShapes.add_plain]
      exact hcell) (fun u hu => by
      obtain ⟨y, _, hy⟩ := List.mem_flatMap.1 hu
      exact h1c y u hy) hn hby hbase
  unfold Oper.wp execOp
  simp only [hop, resolve, invoke, builtin, Sem.run_bind, Sem.run_pure, Result.andThen_ok, List.map_toArray, List.map_cons, List.map_nil, hs, hx, hr]
  exact hK v' w' (hacc.app hel r1 r2 r3) r2
theorem deCells_app (x y : List De) : deCells (x ++ y) = deCells x ++ deCells y := List.flatMap_append
theorem deCells_len (x : List De) : (deCells x).length = x.length * 6 := flat_length KDe x
theorem row_take {w : World} {S : Nat → Prop} {a : Option Addr} {cap : Nat} {l : List De} (m : Nat) (hm : m ≤ l.length) (h : RowAt w S a cap l.length (deCells l)) : RowAt w S a cap (l.take m).length (deCells (l.take m)) := by
  have hl : (l.take m).length = m := by rw [List.length_take]; omega
  refine ⟨by have := h.le; omega, h.lim, h.nil, fun j u hj => h.at_ j u ?_⟩
  rw [← List.take_append_drop m l, deCells_app, List.getElem?_append_left (List.getElem?_eq_some_iff.1 hj).1]
  exact hj
theorem row_drop {w : World} {S : Nat → Prop} {b off : Nat} {cap : Nat} {l : List De} (m : Nat) (hm : m ≤ l.length) (h : RowAt w S (some ⟨b, off, none⟩) cap l.length (deCells l)) :
    RowAt w S (some (if cap = m then ⟨b, off, none⟩ else ⟨b, off + m * 6, none⟩)) (cap - m) (l.drop m).length (deCells (l.drop m)) := by
  have hle := h.le
  have hlim := h.lim
  have hl : (l.take m).length = m := by rw [List.length_take]; omega
  refine ⟨by rw [List.length_drop]; omega, by omega, fun h => (by cases h), fun j u hj => ?_⟩
  have hj0 : j < (deCells (l.drop m)).length := (List.getElem?_eq_some_iff.1 hj).1
  have hne : ¬ cap = m := fun hc => by
    rw [deCells_len, List.length_drop, show l.length - m = 0 by omega, Nat.zero_mul] at hj0
    omega
  rw [if_neg hne]
  obtain ⟨b', o', ha, hs, hc⟩ := h.at_ (m * 6 + j) u (by
    rw [← List.take_append_drop m l, deCells_app, List.getElem?_append_right (by rw [deCells_len, hl]; omega), deCells_len, hl, Nat.add_sub_cancel_left]
    exact hj)
  cases ha
  exact ⟨b, off + m * 6, rfl, hs, by rw [Nat.add_assoc]; exact hc⟩
end Go.Proofs.YtpcdlneompnhlaaGreatDoor.Ty

namespace Go.Proofs.YtpcdlneompnhlaaGreatDoor.Ty
open Go Go.RowKit
open Go.Proofs.YtpcdlneompnhlaaGreatDoor.Lx Go.Proofs.YtpcdlneompnhlaaGreatDoor.Tr Go.Proofs.YtpcdlneompnhlaaGreatDoor.Pa

theorem u64_bd (n : Int) : 0 ≤ IntKind.u64.wrap n ∧ IntKind.u64.wrap n < 18446744073709551616 := by
  unfold IntKind.wrap
  simp [IntKind.bits, IntKind.signed]
  omega
theorem rem_len (n : Int) (L : Nat) (h0 : ¬ L = 0) (hL : L ≤ 1048576) : ∃ m : Nat, (IntKind.u64.wrap n).tmod (L : Int) = (m : Int) ∧ m < L := by
  have h1 := (u64_bd n).1
  have h2 := Int.emod_nonneg (IntKind.u64.wrap n) (show (L : Int) ≠ 0 by omega)
  have h3 := Int.emod_lt_of_pos (IntKind.u64.wrap n) (show (0 : Int) < L by omega)
  refine ⟨((IntKind.u64.wrap n).tmod L).toNat, ?_, ?_⟩
  · rw [Int.tmod_eq_emod_of_nonneg h1]; omega
  · rw [Int.tmod_eq_emod_of_nonneg h1]; omega
set_option maxHeartbeats 8000000 in
set_option maxRecDepth 100000 in
theorem parts_any (l : List De) (a : Option Addr) (cap : Nat) (n : Int) (w : World) (rw0 : RowAt w (fun _ => True) a cap l.length (deCells l)) (in0 : De.InL w (fun _ => True) l) (hsz : De.szL l ≤ 1048576) (hlen : l.length ≤ 1048576) (hw : All w) :
    Calls Tryz.prog 6 #[.slice a l.length cap, .int .i64 n] w fun x w' => x = .returned (.bool true) ∧ Below w.heap.size w w' := by
  have hall := Lib.hid (fun (V : World) (hb : Below w.heap.size w V) => hw.below hb)
  have hrw := Lib.hid (fun (V : World) (hb : Below w.heap.size w V) => rw0.below (Kps.of_below hb))
  have hin := Lib.hid (fun (V : World) (hb : Below w.heap.size w V) => De.InL.below (Kps.of_below hb) in0)
  have hcap := rw0.le
  have hcap2 := rw0.lim
  have hwk := Lib.hid (fun (V : World) (hb : Below w.heap.size w V) => works5_c V (hall.out V hb))
  have hsc := Lib.hid (fun (V : World) (hb : Below w.heap.size w V) => refSize_any l a cap V (by omega) (by omega) (hrw.out V hb) (hin.out V hb))
  have hck := Lib.hid (fun (V : World) (hb : Below w.heap.size w V) => check_c (hrw.out V hb) (hin.out V hb) (by omega) (hall.out V hb).ht)
  have htn := Lib.hid (fun (V : World) (hb : Below w.heap.size w V) => turned_c (hrw.out V hb) (hin.out V hb) hlen)
  have hb0 : Hid (Below w.heap.size w w) := Lib.hid (Below.refl _ _)
  have hnm := Lib.hid (fun (h : (checkK l).2 = 0) (d : De) (hd : d ∈ l) => loc_all h hd)
  have hmy := Lib.hid (fun (h : (checkK l).2 = 0) (d : De) (hd : d ∈ l) => may_names (check_ok.1 h).1 hd)
  have hdo := Lib.hid (fun (h : (checkK l).2 = 0) (k : Nat) (d : De) (hd : l[k]? = some d) (hk : d.kind = 5 ∨ (d.kind = 4 ∧ ∀ e ∈ l, d.name ∉ callNL e.body)) => drop_ok h hd hk)
  have hpi := Lib.hid (fun (l' : List De) (hp : l'.Perm l) => check_iff hp)
  obtain ⟨c1, hc1⟩ : ∃ c, (checkK l).1 = c := ⟨_, rfl⟩
  obtain ⟨c2, hc2⟩ : ∃ c, (checkK l).2 = c := ⟨_, rfl⟩
  rw [hc1, hc2] at hck
  rw [hc2] at hnm hmy hdo hpi
  clear rw0 in0 hw hc1 hc2
  go_enter Tryz.func6, Tryz.ntmps6
  go_wp2_with fail
  refine (hwk.out _ hb0.out).mono ?_
  rintro x1 w1 ⟨rfl, hk1⟩
  replace hk1 := Lib.hid hk1
  go_wp2_with fail
  refine (hsc.out _ hk1.out).mono ?_
  rintro x2 w2 ⟨rfl, hk2⟩
  have hb2 := Lib.hid (hk1.out.trans (hk2.mono hk1.out.size))
  clear hk1 hk2 hb0 hsc
  by_cases hbig : 2000 < (l.length : Int) + (De.szL l : Int)
  · clear hck htn hdo hpi hnm hmy
    go_wp2_with fail
    refine (hwk.out _ hb2.out).mono ?_
    rintro x3 w3 ⟨rfl, hk3⟩
    have hb3 := Lib.hid (hb2.out.trans (hk3.mono hb2.out.size))
    clear hk3 hb2 hwk
    go_wp2_with fail
    go_ret
    exact ⟨rfl, hb3.out⟩
  · have hsz2 : De.szL l ≤ 2000 := by omega
    clear hwk
    go_wp2_with fail
    refine (hck.out _ hb2.out).mono ?_
    rintro x3 w3 ⟨hk3, rfl⟩
    have hb3 := Lib.hid (hb2.out.trans (hk3.mono hb2.out.size))
    clear hk3 hb2 hck hbig
    go_wp2_with fail
    refine (htn.out _ hb3.out).mono ?_
    rintro x4 w4 ⟨a', cap', l', rfl, hr4, hi4, hp4, hk4⟩
    have hb4 := Lib.hid (hb3.out.trans (hk4.mono hb3.out.size))
    have hck4 := Lib.hid (check_c hr4 hi4 (by rw [szL_perm hp4]; omega) (hall.out _ hb4.out).ht)
    obtain ⟨f1, hf1⟩ : ∃ c, (checkK l').1 = c := ⟨_, rfl⟩
    obtain ⟨f2, hf2⟩ : ∃ c, (checkK l').2 = c := ⟨_, rfl⟩
    have hff := hpi.out l' hp4
    rw [hf2] at hff
    rw [hf1, hf2] at hck4
    clear hr4 hi4 hp4 hk4 hb3 htn hpi hf1 hf2
    go_wp2_with fail
    refine hck4.out.mono ?_
    rintro x5 w5 ⟨hk5, rfl⟩
    have hb5 := Lib.hid (hb4.out.trans (hk5.mono hb4.out.size))
    clear hk5 hb4 hck4
    by_cases h0 : c2 = 0
    case neg =>
      have hf0 : ¬ f2 = 0 := fun h => h0 (hff.1 h)
      have g0 : (c2 == 0) = false := by rw [beq_eq_false_iff_ne]; exact h0
      have g1 : (f2 == 0) = false := by rw [beq_eq_false_iff_ne]; exact hf0
      have g2 : (c2 != 0) = true := by rw [bne, g0]; rfl
      clear hff
      go_wp2_with fail
      go_ret
      exact ⟨rfl, hb5.out⟩
    case pos =>
      obtain rfl := hff.2 h0
      subst h0
      clear hff
      by_cases hl0 : l.length = 0
      · have hl1 : (l.length : Int) = 0 := by omega
        go_wp2_with fail
        go_ret
        exact ⟨rfl, hb5.out⟩
      · have hl1 : ¬ (l.length : Int) = 0 := by omega
        have hl2 : ((l.length : Int) == 0) = false := by rw [beq_eq_false_iff_ne]; exact hl1
        go_wp2_with fail
        go_loopw [9] (fun iv wr => ∃ i : Nat, iv = .int .i64 i ∧ i ≤ l.length ∧ Hid (Below w.heap.size w wr)) (fun iv _ => l.length - (intOf iv).toNat)
        case atStart => exact ⟨0, rfl, Nat.zero_le _, hb5⟩
        case round =>
          obtain ⟨i, rfl, hi, hbr⟩ := hrel
          clear hb5
          by_cases hlt : i < l.length
          · obtain ⟨d, hd⟩ : ∃ d, l[i]? = some d := ⟨_, List.getElem?_eq_getElem hlt⟩
            have hdm := List.mem_of_getElem? hd
            obtain ⟨n1, n2, n3⟩ := hnm.out (by trivial) d hdm
            obtain ⟨m1, m2, m3⟩ := hmy.out (by trivial) d hdm
            have hdi := hin.out wr hbr.out d hdm
            have n4 := loc_in hdi
            have hdz : St.szL d.body ≤ De.szL l := by
              have h1 := De.szL_take l i d hd
              have h2 := De.szL_take_le l (i + 1)
              omega
            have hloc := locals_any hdi (by omega)
            obtain ⟨b, off, ha, _, e0, e1, e2, e3, e4, e5⟩ := de_at (hrw.out wr hbr.out) hd
            subst ha
            obtain ⟨k, nm, nn, pa, pc, ps, ba, bc, body, pos⟩ := d
            have hv : (⟨De.vals ⟨k, nm, nn, pa, pc, ps, ba, bc, body, pos⟩⟩ : Array Value) = #[.int .u8 k, .string nm, .int .i64 nn, .slice pa ps.length pc, .slice ba body.length bc, .int .i64 pos] := rfl
            rw [hv] at hloc
            simp only at e0 e1 e2 e3 e4 e5
            generalize locK ⟨k, nm, nn, pa, pc, ps, ba, bc, body, pos⟩ = xs at n1 n2 n3 n4 hloc
            replace hloc := Lib.hid hloc
            replace n1 := Lib.hid n1
            replace n2 := Lib.hid n2
            replace n3 := Lib.hid n3
            replace n4 := Lib.hid n4
            have hi1 : (i : Int) < (l.length : Int) := by omega
            have hi0 : (0 : Int) ≤ (i : Int) := by omega
            clear hv hdi hdz hdm hd m1 m2 m3
            go_wp2_with fail
            refine hloc.out.mono ?_
            rintro x6 w6 ⟨xa, xc, rfl, hrx, hk6⟩
            have hb6 := Lib.hid (hbr.out.trans (hk6.mono hbr.out.size))
            have hxl : xs.length ≤ 9223372036854775807 := by have h1 := hrx.le; have h2 := hrx.lim; unfold maxLen at h2; omega
            replace hrx := Lib.hid hrx
            clear hk6 hbr hloc e0 e1 e2 e3 e4 e5
            go_wp2_with fail
            go_loopw [11] (fun kv wr => ∃ k : Nat, kv = .int .i64 k ∧ k ≤ xs.length ∧ Hid (Below w6.heap.size w6 wr)) (fun kv _ => xs.length - (intOf kv).toNat)
            case atStart => exact ⟨0, rfl, Nat.zero_le _, Lib.hid (Below.refl _ _)⟩
            case round =>
              obtain ⟨q, rfl, hq, hbq⟩ := hrel
              by_cases hlq : q < xs.length
              · obtain ⟨y, hy⟩ : ∃ y, xs[q]? = some y := ⟨_, List.getElem?_eq_getElem hlq⟩
                have hym := List.mem_of_getElem? hy
                obtain ⟨xb, xo, rfl, _, hcy⟩ := hrx.out.at_ q (.string y) (by unfold strCells; rw [List.getElem?_map, hy]; rfl)
                have c0 := below_in hbq.out hcy
                have hnme := name_any y wr (n4.out y hym) (hall.out wr (hb6.out.trans (hbq.out.mono hb6.out.size))).tb.sg
                rw [n1.out y hym] at hnme
                replace hnme := Lib.hid hnme
                have hney := Lib.hid (n3.out y hym)
                have hq1 : (q : Int) < (xs.length : Int) := by omega
                have hq0 : (0 : Int) ≤ (q : Int) := by omega
                clear hym
                replace hcy := Lib.hid hcy
                go_wp2_with fail
                refine hnme.out.mono ?_
                rintro x7 w7 ⟨rfl, hk7⟩
                have hb7 := Lib.hid (hbq.out.trans (hk7.mono hbq.out.size))
                clear hk7 hbq hnme c0
                go_wp2_with fail
                go_loopw [12] (fun mv wr => ∃ m : Nat, mv = .int .i64 m ∧ m ≤ l.length ∧ Hid (Below w6.heap.size w6 wr)) (fun mv _ => l.length - (intOf mv).toNat)
                case atStart => exact ⟨0, rfl, Nat.zero_le _, hb7⟩
                case round =>
                  obtain ⟨m, rfl, hm, hbm⟩ := hrel
                  clear hb7
                  by_cases hlm : m < l.length
                  · obtain ⟨e, he⟩ : ∃ e, l[m]? = some e := ⟨_, List.getElem?_eq_getElem hlm⟩
                    have hen := str_ne (hney.out e (List.mem_of_getElem? he))
                    obtain ⟨b', off', ha', _, _, e1, _⟩ := de_at (hrw.out wr (hb6.out.trans (hbm.out.mono hb6.out.size))) he
                    cases ha'
                    have c1 := below_in hbm.out hcy.out
                    have e1' := fun W : World => fun (hW : Below wr.heap.size wr W) => below_in hW e1
                    have hm1 : (m : Int) < (l.length : Int) := by omega
                    have hm0 : (0 : Int) ≤ (m : Int) := by omega
                    have hbd := Lib.hid (fun m => hbm.out.trans (below_drewN _ wr m))
                    clear he
                    go_wp2_with fail
                    go_quiet (fail)
                    go_wp2_with fail
                    go_roundw
                    case rel => exact ⟨m + 1, by go_num, by omega, Lib.hid (hbd.out _)⟩
                    case measure => simp [intOf]; omega
                  · have hge : ¬ (m : Int) < (l.length : Int) := by omega
                    go_wp2_with fail
                    go_loopw [13] (fun mv wr => ∃ m : Nat, mv = .int .i64 m ∧ m ≤ q ∧ Hid (Below w6.heap.size w6 wr)) (fun mv _ => q - (intOf mv).toNat)
                    case atStart => exact ⟨0, rfl, Nat.zero_le _, hbm⟩
                    case round =>
                      obtain ⟨m', rfl, hm', hbm'⟩ := hrel
                      clear hbm
                      by_cases hlm' : m' < q
                      · obtain ⟨z, hz⟩ : ∃ z, xs[m']? = some z := ⟨_, List.getElem?_eq_getElem (by omega)⟩
                        obtain ⟨xb', xo', ha', _, hcz⟩ := hrx.out.at_ m' (.string z) (by unfold strCells; rw [List.getElem?_map, hz]; rfl)
                        cases ha'
                        have hzy := str_ne (fun (h : z = y) => by
                          subst h
                          have := (List.getElem?_inj (by omega) n2.out).1 (hz.trans hy.symm)
                          omega)
                        have c1 := below_in hbm'.out hcy.out
                        have c2 := below_in hbm'.out hcz
                        have hm1 : (m' : Int) < (q : Int) := by omega
                        have hm2 : (m' : Int) < (xs.length : Int) := by omega
                        have hm0 : (0 : Int) ≤ (m' : Int) := by omega
                        have hbd := Lib.hid (fun m => hbm'.out.trans (below_drewN _ wr m))
                        clear hz hcz
                        go_wp2_with fail
                        go_quiet (fail)
                        go_wp2_with fail
                        go_roundw
                        case rel => exact ⟨m' + 1, by go_num, by omega, Lib.hid (hbd.out _)⟩
                        case measure => simp [intOf]; omega
                      · have hge' : ¬ (m' : Int) < (q : Int) := by omega
                        go_wp2_with fail
                        go_roundw
                        case rel => exact ⟨q + 1, by go_num, by omega, hbm'⟩
                        case measure => simp [intOf]; omega
              · have hge : ¬ (q : Int) < (xs.length : Int) := by omega
                have hbe := Lib.hid (hb6.out.trans (hbq.out.mono hb6.out.size))
                go_wp2_with fail
                go_roundw
                case rel => exact ⟨i + 1, by go_num, by omega, hbe⟩
                case measure => simp [intOf]; omega
          · have hge : ¬ (i : Int) < (l.length : Int) := by omega
            obtain ⟨kk, hkk, hkl⟩ := rem_len n l.length hl0 hlen
            have hlw : IntKind.u64.wrap (l.length : Int) = (l.length : Int) := IntWalk.u64_in _ (by omega)
            have hkw : IntKind.i64.wrap (kk : Int) = (kk : Int) := IntWalk.i64_in _ (by omega)
            obtain ⟨d, hd⟩ : ∃ d, l[kk]? = some d := ⟨_, List.getElem?_eq_getElem hkl⟩
            obtain ⟨b, off, ha, _, e0, e1, _, _, _, _⟩ := de_at (hrw.out w (Below.refl _ _)) hd
            subst ha
            have hT := hdo.out (by trivial) kk d hd
            obtain ⟨dk, dnm, dn, dpa, dpc, dps, dba, dbc, dbody, dpos⟩ := d
            simp only at e0 e1 hT
            have hk1 : (kk : Int) < (l.length : Int) := by omega
            have hk0 : (0 : Int) ≤ (kk : Int) := by omega
            replace e0 := Lib.hid e0
            replace e1 := Lib.hid e1
            replace hT := Lib.hid hT
            clear hd hnm hmy hdo
            go_wp2_with fail
            go_loopw [15] (fun iv wr => ∃ j : Nat, iv = .int .i64 j ∧ j ≤ l.length ∧ Hid (Below w.heap.size w wr) ∧ Hid (∀ m, m < j → ∀ e, l[m]? = some e → dnm ∉ callNL e.body) ∧ Hid (0 < j → dk = 4)) (fun iv _ => l.length - (intOf iv).toNat)
            case atStart => exact ⟨0, rfl, Nat.zero_le _, hbr, Lib.hid (fun m hm => by omega), Lib.hid (fun h => by omega)⟩
            case round =>
              obtain ⟨j, rfl, hj, hbj, hcn, hk4⟩ := hrel
              clear hbr
              have g0 := below_in hbj.out e0.out
              have g1 := below_in hbj.out e1.out
              by_cases hlj : j < l.length
              · have hj1 : (j : Int) < (l.length : Int) := by omega
                have hj0 : (0 : Int) ≤ (j : Int) := by omega
                by_cases h5 : dk = 5
                · subst h5
                  replace hT := Lib.hid (hT.out (.inl rfl))
                  obtain ⟨i0, hi0, hz0, hz1, hz2⟩ := info_parts info_de
                  have hkc : (kk : Int) ≤ (cap : Int) := by omega
                  have hkl2 : (kk : Int) ≤ (l.length : Int) := by omega
                  have hkp : IntKind.i64.wrap ((kk : Int) + 1) = (kk : Int) + 1 := IntWalk.i64_in _ (by omega)
                  have hkq : (kk : Int) + 1 ≤ (l.length : Int) := by omega
                  have hlc : (l.length : Int) ≤ (cap : Int) := by omega
                  have hkr : (0 : Int) ≤ (kk : Int) + 1 := by omega
                  have hks : ((kk : Int) + 1).toNat = kk + 1 := by omega
                  obtain ⟨ad, had⟩ : ∃ ad : Addr, (if cap = kk + 1 then ⟨b, off, none⟩ else ⟨b, off + (kk + 1) * 6, none⟩) = ad := ⟨_, rfl⟩
                  have hlow := Lib.hid (fun (V : World) (hb : Below w.heap.size w V) (y : De) (hy : y ∈ l) => (De.In.below (kps_low hb) ((hin.out w (Below.refl _ _) y hy).bds.mono (fun b hb => hb.2)) : De.In V (fun b => b < w.heap.size) y))
                  obtain ⟨xs1, hxs1⟩ : ∃ xs, l.take kk = xs := ⟨_, rfl⟩
                  obtain ⟨xs2, hxs2⟩ : ∃ xs, l.drop (kk + 1) = xs := ⟨_, rfl⟩
                  have hx1 : xs1.length = kk := by rw [← hxs1, List.length_take]; omega
                  have hx2 : xs2.length = l.length - (kk + 1) := by rw [← hxs2, List.length_drop]
                  have hrt := Lib.hid (fun (V : World) (hb : Below w.heap.size w V) => row_take kk (by omega) (hrw.out V hb))
                  have hrd := Lib.hid (fun (V : World) (hb : Below w.heap.size w V) => row_drop (kk + 1) (by omega) (hrw.out V hb))
                  obtain ⟨xs3, hxs3⟩ : ∃ xs, xs1 ++ xs2 = xs := ⟨_, rfl⟩
                  have hs12 : Hid (De.szL xs3 ≤ 4194304) := Lib.hid (by rw [← hxs3, ← hxs1, ← hxs2]; have := szL_sub (drop_sub l kk); omega)
                  have hm1 : Hid (∀ y ∈ xs1, y ∈ l) := Lib.hid (fun y hy => List.mem_of_mem_take (by rw [hxs1]; exact hy))
                  have hm2 : Hid (∀ y ∈ xs2, y ∈ l) := Lib.hid (fun y hy => List.mem_of_mem_drop (by rw [hxs2]; exact hy))
                  replace hT := hT.out
                  rw [hxs1, hxs2, hxs3] at hT
                  rw [hxs1] at hrt
                  rw [hxs2, had] at hrd
                  replace hT := Lib.hid hT
                  clear hxs1 hxs2
                  replace hxs3 := Lib.hid hxs3
                  go_upto_region 34 with fail
                  refine wp_region_noPanic ?_
                  refine wp_region_held_drew (S := fun _ => True) (by kernel_rfl) trivial (fun hHeld => ?_)
                  refine' wpAnyH_take (i := 1) (oi := _) (v := _) rfl (by kernel_rfl) (by kernel_rfl) (by kernel_rfl) (fun _ _ _ h => h) (Or.inl ⟨by rfl, ?hyp1⟩) (by assumption) ?restp1
                  case hyp1 => (intro w hSw; go_simp; all_goals (with_reducible rfl))
                  try simp only [Act.put, List.getElem_toArray, List.getElem_cons_zero, List.getElem_cons_succ, List.setIfInBounds_toArray, List.set_cons_zero, List.set_cons_succ]
                  refine' wpAnyH_take (i := 2) (oi := _) (v := _) rfl (by kernel_rfl) (by kernel_rfl) (by kernel_rfl) (fun _ _ _ h => h) (Or.inl ⟨by rfl, ?hyp2⟩) (by assumption) ?restp2
                  case hyp2 => (intro w hSw; go_simp; all_goals (with_reducible rfl))
                  try simp only [Act.put, List.getElem_toArray, List.getElem_cons_zero, List.getElem_cons_succ, List.setIfInBounds_toArray, List.set_cons_zero, List.set_cons_succ]
                  refine' wpAnyH_take (i := 3) (oi := _) (v := .slice (some ⟨b, off, none⟩) kk cap) rfl (by kernel_rfl) (by kernel_rfl) (by kernel_rfl) (fun _ _ _ h => h) (Or.inl ⟨by rfl, ?hyp3⟩) (by assumption) ?restp3
                  case hyp3 => (intro w hSw; go_simp; all_goals (with_reducible rfl))
                  try simp only [Act.put, List.getElem_toArray, List.getElem_cons_zero, List.getElem_cons_succ, List.setIfInBounds_toArray, List.set_cons_zero, List.set_cons_succ]
                  refine' wpAnyH_take (i := 5) (oi := _) (v := _) rfl (by kernel_rfl) (by kernel_rfl) (by kernel_rfl) (fun _ _ _ h => h) (Or.inl ⟨by rfl, ?hyp5⟩) (by assumption) ?restp5
                  case hyp5 => (intro w hSw; go_simp; all_goals (with_reducible rfl))
                  try simp only [Act.put, List.getElem_toArray, List.getElem_cons_zero, List.getElem_cons_succ, List.setIfInBounds_toArray, List.set_cons_zero, List.set_cons_succ]
                  refine' wpAnyH_take (i := 6) (oi := _) (v := _) rfl (by kernel_rfl) (by kernel_rfl) (by kernel_rfl) (fun _ _ _ h => h) (Or.inl ⟨by rfl, ?hyp6⟩) (by assumption) ?restp6
                  case hyp6 => (intro w hSw; go_simp; all_goals (with_reducible rfl))
                  try simp only [Act.put, List.getElem_toArray, List.getElem_cons_zero, List.getElem_cons_succ, List.setIfInBounds_toArray, List.set_cons_zero, List.set_cons_succ]
                  refine' wpAnyH_take (i := 7) (oi := _) (v := _) rfl (by kernel_rfl) (by kernel_rfl) (by kernel_rfl) (fun _ _ _ h => h) (Or.inl ⟨by rfl, ?hyp7⟩) (by assumption) ?restp7
                  case hyp7 => (intro w hSw; go_simp; all_goals (with_reducible rfl))
                  try simp only [Act.put, List.getElem_toArray, List.getElem_cons_zero, List.getElem_cons_succ, List.setIfInBounds_toArray, List.set_cons_zero, List.set_cons_succ]
                  refine' wpAnyH_take (i := 8) (oi := _) (v := .slice (some ad) (l.length - (kk + 1)) (cap - (kk + 1))) rfl (by kernel_rfl) (by kernel_rfl) (by kernel_rfl) (fun _ _ _ h => h) (Or.inl ⟨by rfl, ?hyp8⟩) (by assumption) ?restp8
                  case hyp8 =>
                    intro w hSw
                    rw [← had]
                    by_cases hcz : cap = kk + 1
                    · rw [if_pos hcz]
                      go_simp
                      all_goals first | with_reducible rfl | assumption | omega
                    · rw [if_neg hcz]
                      go_simp
                      all_goals first | with_reducible rfl | assumption | omega
                  try simp only [Act.put, List.getElem_toArray, List.getElem_cons_zero, List.getElem_cons_succ, List.setIfInBounds_toArray, List.set_cons_zero, List.set_cons_succ]
                  refine wpAnyH_ready (rs := [0]) (by kernel_rfl) (by simp) ?_
                  refine AllReadyH.cons (o := _) rfl (fun K hK => ?_) AllReadyH.nil
                  go_simp
                  obtain ⟨V1, hV1⟩ : ∃ V, (wr.alloc (Obj.cells #[] 31)).drew = V := ⟨_, rfl⟩
                  have hbV1 : Below w.heap.size w V1 := by rw [← hV1]; exact (hbj.out.alloc hbj.out.size _).drew
                  have hnil : AccS KDe 31 w.heap.size V1 (.slice (some ⟨wr.heap.size, 0, none⟩) 0 0) [] := by
                    rw [← hV1]
                    exact ⟨World.ownsRow_lit (e := 31) (size := 6) wr #[] 0 hbj.out.size (by unfold maxLen; omega) rfl, fun x hx => by cases hx⟩
                  have hwz := hbj.out.size
                  rw [hV1]
                  clear hV1
                  refine hK.out _ _ trivial (fun hHeld => ?_)
                  clear hK K
                  try simp only [Act.put, List.getElem_toArray, List.getElem_cons_zero, List.getElem_cons_succ, List.setIfInBounds_toArray, List.set_cons_zero, List.set_cons_succ]
                  refine wpAnyH_ready (rs := [4]) (by kernel_rfl) (by simp) ?_
                  refine AllReadyH.cons (o := _) rfl (fun K hK => ?_) AllReadyH.nil
                  refine op_append_L KDe (.tmp 143) (.tmp 146) 22 rfl 31 i0 _ 6 88 Tryz.underlying22 hi0 hz0 hz1 hz2 rfl (by decide) rfl De.vals_one w.heap.size _ [] rfl hnil xs1 ⟨b, off, none⟩ cap (by rw [hx1]; rfl) (hrt.out V1 hbV1) (fun y hy => KDe.mono (fun b (hb : b < w.heap.size) hv => by have h1 : wr.heap.size = b := Option.some.inj hv; omega) (hlow.out V1 hbV1 y (hm1.out y hy))) (by unfold maxLen; simp only [List.length_nil]; omega) (by simp only [List.length_nil]; omega) hbV1.size ?_
                  intro v5 V5 hacc5 hg5
                  have hb5 : Below w.heap.size w V5 := Below.grown hbV1 hg5 hbV1.size (fun b hb => by have h1 : wr.heap.size = b := Option.some.inj hb; omega)
                  rw [List.nil_append] at hacc5
                  clear hg5 hnil hbV1 hwz
                  refine hK.out _ _ trivial (fun hHeld => ?_)
                  clear hK K
                  try simp only [Act.put, List.getElem_toArray, List.getElem_cons_zero, List.getElem_cons_succ, List.setIfInBounds_toArray, List.set_cons_zero, List.set_cons_succ]
                  refine wpAnyH_ready (rs := [9]) (by kernel_rfl) (by simp) ?_
                  refine AllReadyH.cons (o := _) rfl (fun K hK => ?_) AllReadyH.nil
                  refine op_append_L KDe (.tmp 147) (.tmp 151) 22 rfl 31 i0 _ 6 88 Tryz.underlying22 hi0 hz0 hz1 hz2 rfl (by decide) rfl De.vals_one w.heap.size _ xs1 rfl hacc5 xs2 ad (cap - (kk + 1)) (by rw [hx2]; rfl) (hrd.out V5 hb5) (fun y hy => KDe.mono (fun b (hb : b < w.heap.size) hv => by have := (hacc5.block b hv).1; omega) (hlow.out V5 hb5 y (hm2.out y hy))) (by unfold maxLen; omega) (by omega) hb5.size ?_
                  intro v6 V6 hacc6 hg6
                  have hb6 : Below w.heap.size w V6 := Below.grown hb5 hg6 hb5.size (fun b hb => (hacc5.block b hb).1)
                  rw [hxs3.out] at hacc6
                  obtain ⟨a6, cap6, hv6, hr6, hi6⟩ := hacc6.out
                  subst hv6
                  have hck6 := check_c (S := fun _ => True) (show RowAt V6 (fun _ => True) a6 cap6 xs3.length (deCells xs3) from hr6) (show De.InL V6 (fun _ => True) xs3 from hi6) hs12.out (hall.out _ hb6).ht
                  rw [hT.out] at hck6
                  generalize (checkK xs3).1 = r1 at hck6
                  replace hck6 := Lib.hid hck6
                  clear hg6 hacc6 hacc5 hr6 hi6 hb5
                  refine hK.out _ _ trivial (fun hHeld => ?_)
                  clear hK K
                  try simp only [Act.put, List.getElem_toArray, List.getElem_cons_zero, List.getElem_cons_succ, List.setIfInBounds_toArray, List.set_cons_zero, List.set_cons_succ]
                  refine wpAnyH_ready (rs := [10]) (by kernel_rfl) (by simp) ?_
                  refine AllReadyH.cons (o := _) rfl (fun K hK => ?_) AllReadyH.nil
                  go_simp
                  go_at_call 22
                  refine hck6.out.mono ?_
                  rintro e V7 ⟨hk7, rfl⟩
                  have hb7 := Lib.hid (hb6.trans (hk7.mono hb6.size))
                  clear hk7 hck6 hb6
                  refine hK.out _ _ trivial (fun hHeld => ?_)
                  clear hK K
                  try simp only [Act.put, List.getElem_toArray, List.getElem_cons_zero, List.getElem_cons_succ, List.setIfInBounds_toArray, List.set_cons_zero, List.set_cons_succ]
                  refine' wpAnyH_take (i := 11) (oi := _) (v := _) rfl (by kernel_rfl) (by kernel_rfl) (by kernel_rfl) (fun _ _ _ h => h) (Or.inl ⟨by rfl, ?hyp11⟩) (by assumption) ?restp11
                  case hyp11 => (intro w hSw; go_simp; all_goals (with_reducible rfl))
                  try simp only [Act.put, List.getElem_toArray, List.getElem_cons_zero, List.getElem_cons_succ, List.setIfInBounds_toArray, List.set_cons_zero, List.set_cons_succ]
                  refine' wpAnyH_take (i := 12) (oi := _) (v := _) rfl (by kernel_rfl) (by kernel_rfl) (by kernel_rfl) (fun _ _ _ h => h) (Or.inl ⟨by rfl, ?hyp12⟩) (by assumption) ?restp12
                  case hyp12 => (intro w hSw; go_simp; all_goals (with_reducible rfl))
                  try simp only [Act.put, List.getElem_toArray, List.getElem_cons_zero, List.getElem_cons_succ, List.setIfInBounds_toArray, List.set_cons_zero, List.set_cons_succ]
                  refine' wpAnyH_take (i := 13) (oi := _) (v := _) rfl (by kernel_rfl) (by kernel_rfl) (by kernel_rfl) (fun _ _ _ h => h) (Or.inl ⟨by rfl, ?hyp13⟩) (by assumption) ?restp13
                  case hyp13 => (intro w hSw; go_simp; all_goals (with_reducible rfl))
                  try simp only [Act.put, List.getElem_toArray, List.getElem_cons_zero, List.getElem_cons_succ, List.setIfInBounds_toArray, List.set_cons_zero, List.set_cons_succ]
                  refine' wpAnyH_take (i := 14) (oi := _) (v := _) rfl (by kernel_rfl) (by kernel_rfl) (by kernel_rfl) (fun _ _ _ h => h) (Or.inl ⟨by rfl, ?hyp14⟩) (by assumption) ?restp14
                  case hyp14 => (intro w hSw; go_simp; all_goals (with_reducible rfl))
                  try simp only [Act.put, List.getElem_toArray, List.getElem_cons_zero, List.getElem_cons_succ, List.setIfInBounds_toArray, List.set_cons_zero, List.set_cons_succ]
                  refine' wpAnyH_take (i := 15) (oi := _) (v := _) rfl (by kernel_rfl) (by kernel_rfl) (by kernel_rfl) (fun _ _ _ h => h) (Or.inl ⟨by rfl, ?hyp15⟩) (by assumption) ?restp15
                  case hyp15 => (intro w hSw; go_simp; all_goals (with_reducible rfl))
                  try simp only [Act.put, List.getElem_toArray, List.getElem_cons_zero, List.getElem_cons_succ, List.setIfInBounds_toArray, List.set_cons_zero, List.set_cons_succ]
                  refine wpAnyH_done (by kernel_rfl) ?_ _
                  refine NoPanic.normal ?_
                  go_wp2_with fail
                  go_ret
                  exact ⟨rfl, hb7.out⟩
                · have h50 : (dk != 5) = true := by simpa using h5
                  by_cases h4 : dk = 4
                  · subst h4
                    obtain ⟨e, he⟩ : ∃ e, l[j]? = some e := ⟨_, List.getElem?_eq_getElem hlj⟩
                    have hei := hin.out wr hbj.out e (List.mem_of_getElem? he)
                    obtain ⟨b', off', ha', _, _, _, _, _, q4, _⟩ := de_at (hrw.out wr hbj.out) he
                    cases ha'
                    have hcon := Lib.hid (fun m => isNamed_c (w := wr.drewN m) dnm (hei.2.2.2.2.2.2.1.below (Kps.of_below (below_drewN _ wr m))) (St.InL.below (Kps.of_below (below_drewN _ wr m)) _ hei.2.2.2.2.2.2.2))
                    obtain ⟨ek, enm, en, epa, epc, eps, eba, ebc, ebody, epos⟩ := e
                    simp only at q4 hcon
                    have hbd := Lib.hid (fun m => hbj.out.trans (below_drewN _ wr m))
                    by_cases hq : dnm ∈ callNL ebody
                    · rw [memB_iff.2 hq] at hcon
                      clear hei hq he
                      go_wp2_with fail
                      go_quiet ((go_at_call 26; exact (hcon.out _).mono fun _ _ h => ⟨h.1, _, h.2⟩))
                      go_wp2_with fail
                      go_ret
                      exact ⟨rfl, hbd.out _⟩
                    · have hq0 : memB dnm (callNL ebody) = false := by
                        cases h : memB dnm (callNL ebody) with
                        | false => rfl
                        | true => exact absurd (memB_iff.1 h) hq
                      rw [hq0] at hcon
                      have hcn' : Hid (∀ m, m < j + 1 → ∀ e, l[m]? = some e → dnm ∉ callNL e.body) := Lib.hid (fun m hm e hme => by
                        by_cases hmj : m = j
                        · subst hmj
                          rw [he] at hme
                          obtain rfl := Option.some.inj hme
                          exact hq
                        · exact hcn.out m (by omega) e hme)
                      clear hei hq he hq0
                      go_wp2_with fail
                      go_quiet ((go_at_call 26; exact (hcon.out _).mono fun _ _ h => ⟨h.1, _, h.2⟩))
                      go_wp2_with fail
                      go_roundw
                      case rel => exact ⟨j + 1, by go_num, by omega, Lib.hid (hbd.out _), hcn', Lib.hid (by simp)⟩
                      case measure => simp [intOf]; omega
                  · have h40 : (dk != 4) = true := by simpa using h4
                    have hbd := Lib.hid (fun m => hbj.out.trans (below_drewN _ wr m))
                    go_wp2_with fail
                    go_quiet (fail)
                    go_wp2_with fail
                    go_ret
                    exact ⟨rfl, hbd.out _⟩
              · have hge2 : ¬ (j : Int) < (l.length : Int) := by omega
                replace hT := Lib.hid (hT.out (.inr ⟨hk4.out (by omega), fun e he => by
                  obtain ⟨m, hm⟩ := List.mem_iff_getElem?.1 he
                  exact hcn.out m (by have := (List.getElem?_eq_some_iff.1 hm).1; omega) e hm⟩))
                obtain ⟨i0, hi0, hz0, hz1, hz2⟩ := info_parts info_de
                have hkc : (kk : Int) ≤ (cap : Int) := by omega
                have hkl2 : (kk : Int) ≤ (l.length : Int) := by omega
                have hkp : IntKind.i64.wrap ((kk : Int) + 1) = (kk : Int) + 1 := IntWalk.i64_in _ (by omega)
                have hkq : (kk : Int) + 1 ≤ (l.length : Int) := by omega
                have hlc : (l.length : Int) ≤ (cap : Int) := by omega
                have hkr : (0 : Int) ≤ (kk : Int) + 1 := by omega
                have hks : ((kk : Int) + 1).toNat = kk + 1 := by omega
                obtain ⟨ad, had⟩ : ∃ ad : Addr, (if cap = kk + 1 then ⟨b, off, none⟩ else ⟨b, off + (kk + 1) * 6, none⟩) = ad := ⟨_, rfl⟩
                have hlow := Lib.hid (fun (V : World) (hb : Below w.heap.size w V) (y : De) (hy : y ∈ l) => (De.In.below (kps_low hb) ((hin.out w (Below.refl _ _) y hy).bds.mono (fun b hb => hb.2)) : De.In V (fun b => b < w.heap.size) y))
                obtain ⟨xs1, hxs1⟩ : ∃ xs, l.take kk = xs := ⟨_, rfl⟩
                obtain ⟨xs2, hxs2⟩ : ∃ xs, l.drop (kk + 1) = xs := ⟨_, rfl⟩
                have hx1 : xs1.length = kk := by rw [← hxs1, List.length_take]; omega
                have hx2 : xs2.length = l.length - (kk + 1) := by rw [← hxs2, List.length_drop]
                have hrt := Lib.hid (fun (V : World) (hb : Below w.heap.size w V) => row_take kk (by omega) (hrw.out V hb))
                have hrd := Lib.hid (fun (V : World) (hb : Below w.heap.size w V) => row_drop (kk + 1) (by omega) (hrw.out V hb))
                obtain ⟨xs3, hxs3⟩ : ∃ xs, xs1 ++ xs2 = xs := ⟨_, rfl⟩
                have hs12 : Hid (De.szL xs3 ≤ 4194304) := Lib.hid (by rw [← hxs3, ← hxs1, ← hxs2]; have := szL_sub (drop_sub l kk); omega)
                have hm1 : Hid (∀ y ∈ xs1, y ∈ l) := Lib.hid (fun y hy => List.mem_of_mem_take (by rw [hxs1]; exact hy))
                have hm2 : Hid (∀ y ∈ xs2, y ∈ l) := Lib.hid (fun y hy => List.mem_of_mem_drop (by rw [hxs2]; exact hy))
                replace hT := hT.out
                rw [hxs1, hxs2, hxs3] at hT
                rw [hxs1] at hrt
                rw [hxs2, had] at hrd
                replace hT := Lib.hid hT
                clear hxs1 hxs2
                replace hxs3 := Lib.hid hxs3
                go_upto_region 34 with fail
                refine wp_region_noPanic ?_
                refine wp_region_held_drew (S := fun _ => True) (by kernel_rfl) trivial (fun hHeld => ?_)
                refine' wpAnyH_take (i := 1) (oi := _) (v := _) rfl (by kernel_rfl) (by kernel_rfl) (by kernel_rfl) (fun _ _ _ h => h) (Or.inl ⟨by rfl, ?hyq1⟩) (by assumption) ?restq1
                case hyq1 => (intro w hSw; go_simp; all_goals (with_reducible rfl))
                try simp only [Act.put, List.getElem_toArray, List.getElem_cons_zero, List.getElem_cons_succ, List.setIfInBounds_toArray, List.set_cons_zero, List.set_cons_succ]
                refine' wpAnyH_take (i := 2) (oi := _) (v := _) rfl (by kernel_rfl) (by kernel_rfl) (by kernel_rfl) (fun _ _ _ h => h) (Or.inl ⟨by rfl, ?hyq2⟩) (by assumption) ?restq2
                case hyq2 => (intro w hSw; go_simp; all_goals (with_reducible rfl))
                try simp only [Act.put, List.getElem_toArray, List.getElem_cons_zero, List.getElem_cons_succ, List.setIfInBounds_toArray, List.set_cons_zero, List.set_cons_succ]
                refine' wpAnyH_take (i := 3) (oi := _) (v := .slice (some ⟨b, off, none⟩) kk cap) rfl (by kernel_rfl) (by kernel_rfl) (by kernel_rfl) (fun _ _ _ h => h) (Or.inl ⟨by rfl, ?hyq3⟩) (by assumption) ?restq3
                case hyq3 => (intro w hSw; go_simp; all_goals (with_reducible rfl))
                try simp only [Act.put, List.getElem_toArray, List.getElem_cons_zero, List.getElem_cons_succ, List.setIfInBounds_toArray, List.set_cons_zero, List.set_cons_succ]
                refine' wpAnyH_take (i := 5) (oi := _) (v := _) rfl (by kernel_rfl) (by kernel_rfl) (by kernel_rfl) (fun _ _ _ h => h) (Or.inl ⟨by rfl, ?hyq5⟩) (by assumption) ?restq5
                case hyq5 => (intro w hSw; go_simp; all_goals (with_reducible rfl))
                try simp only [Act.put, List.getElem_toArray, List.getElem_cons_zero, List.getElem_cons_succ, List.setIfInBounds_toArray, List.set_cons_zero, List.set_cons_succ]
                refine' wpAnyH_take (i := 6) (oi := _) (v := _) rfl (by kernel_rfl) (by kernel_rfl) (by kernel_rfl) (fun _ _ _ h => h) (Or.inl ⟨by rfl, ?hyq6⟩) (by assumption) ?restq6
                case hyq6 => (intro w hSw; go_simp; all_goals (with_reducible rfl))
                try simp only [Act.put, List.getElem_toArray, List.getElem_cons_zero, List.getElem_cons_succ, List.setIfInBounds_toArray, List.set_cons_zero, List.set_cons_succ]
                refine' wpAnyH_take (i := 7) (oi := _) (v := _) rfl (by kernel_rfl) (by kernel_rfl) (by kernel_rfl) (fun _ _ _ h => h) (Or.inl ⟨by rfl, ?hyq7⟩) (by assumption) ?restq7
                case hyq7 => (intro w hSw; go_simp; all_goals (with_reducible rfl))
                try simp only [Act.put, List.getElem_toArray, List.getElem_cons_zero, List.getElem_cons_succ, List.setIfInBounds_toArray, List.set_cons_zero, List.set_cons_succ]
                refine' wpAnyH_take (i := 8) (oi := _) (v := .slice (some ad) (l.length - (kk + 1)) (cap - (kk + 1))) rfl (by kernel_rfl) (by kernel_rfl) (by kernel_rfl) (fun _ _ _ h => h) (Or.inl ⟨by rfl, ?hyq8⟩) (by assumption) ?restq8
                case hyq8 =>
                  intro w hSw
                  rw [← had]
                  by_cases hcz : cap = kk + 1
                  · rw [if_pos hcz]
                    go_simp
                    all_goals first | with_reducible rfl | assumption | omega
                  · rw [if_neg hcz]
                    go_simp
                    all_goals first | with_reducible rfl | assumption | omega
                try simp only [Act.put, List.getElem_toArray, List.getElem_cons_zero, List.getElem_cons_succ, List.setIfInBounds_toArray, List.set_cons_zero, List.set_cons_succ]
                refine wpAnyH_ready (rs := [0]) (by kernel_rfl) (by simp) ?_
                refine AllReadyH.cons (o := _) rfl (fun K hK => ?_) AllReadyH.nil
                go_simp
                obtain ⟨V1, hV1⟩ : ∃ V, (wr.alloc (Obj.cells #[] 31)).drew = V := ⟨_, rfl⟩
                have hbV1 : Below w.heap.size w V1 := by rw [← hV1]; exact (hbj.out.alloc hbj.out.size _).drew
                have hnil : AccS KDe 31 w.heap.size V1 (.slice (some ⟨wr.heap.size, 0, none⟩) 0 0) [] := by
                  rw [← hV1]
                  exact ⟨World.ownsRow_lit (e := 31) (size := 6) wr #[] 0 hbj.out.size (by unfold maxLen; omega) rfl, fun x hx => by cases hx⟩
                have hwz := hbj.out.size
                rw [hV1]
                clear hV1
                refine hK.out _ _ trivial (fun hHeld => ?_)
                clear hK K
                try simp only [Act.put, List.getElem_toArray, List.getElem_cons_zero, List.getElem_cons_succ, List.setIfInBounds_toArray, List.set_cons_zero, List.set_cons_succ]
                refine wpAnyH_ready (rs := [4]) (by kernel_rfl) (by simp) ?_
                refine AllReadyH.cons (o := _) rfl (fun K hK => ?_) AllReadyH.nil
                refine op_append_L KDe (.tmp 143) (.tmp 146) 22 rfl 31 i0 _ 6 88 Tryz.underlying22 hi0 hz0 hz1 hz2 rfl (by decide) rfl De.vals_one w.heap.size _ [] rfl hnil xs1 ⟨b, off, none⟩ cap (by rw [hx1]; rfl) (hrt.out V1 hbV1) (fun y hy => KDe.mono (fun b (hb : b < w.heap.size) hv => by have h1 : wr.heap.size = b := Option.some.inj hv; omega) (hlow.out V1 hbV1 y (hm1.out y hy))) (by unfold maxLen; simp only [List.length_nil]; omega) (by simp only [List.length_nil]; omega) hbV1.size ?_
                intro v5 V5 hacc5 hg5
                have hb5 : Below w.heap.size w V5 := Below.grown hbV1 hg5 hbV1.size (fun b hb => by have h1 : wr.heap.size = b := Option.some.inj hb; omega)
                rw [List.nil_append] at hacc5
                clear hg5 hnil hbV1 hwz
                refine hK.out _ _ trivial (fun hHeld => ?_)
                clear hK K
                try simp only [Act.put, List.getElem_toArray, List.getElem_cons_zero, List.getElem_cons_succ, List.setIfInBounds_toArray, List.set_cons_zero, List.set_cons_succ]
                refine wpAnyH_ready (rs := [9]) (by kernel_rfl) (by simp) ?_
                refine AllReadyH.cons (o := _) rfl (fun K hK => ?_) AllReadyH.nil
                refine op_append_L KDe (.tmp 147) (.tmp 151) 22 rfl 31 i0 _ 6 88 Tryz.underlying22 hi0 hz0 hz1 hz2 rfl (by decide) rfl De.vals_one w.heap.size _ xs1 rfl hacc5 xs2 ad (cap - (kk + 1)) (by rw [hx2]; rfl) (hrd.out V5 hb5) (fun y hy => KDe.mono (fun b (hb : b < w.heap.size) hv => by have := (hacc5.block b hv).1; omega) (hlow.out V5 hb5 y (hm2.out y hy))) (by unfold maxLen; omega) (by omega) hb5.size ?_
                intro v6 V6 hacc6 hg6
                have hb6 : Below w.heap.size w V6 := Below.grown hb5 hg6 hb5.size (fun b hb => (hacc5.block b hb).1)
                rw [hxs3.out] at hacc6
                obtain ⟨a6, cap6, hv6, hr6, hi6⟩ := hacc6.out
                subst hv6
                have hck6 := check_c (S := fun _ => True) (show RowAt V6 (fun _ => True) a6 cap6 xs3.length (deCells xs3) from hr6) (show De.InL V6 (fun _ => True) xs3 from hi6) hs12.out (hall.out _ hb6).ht
                rw [hT.out] at hck6
                generalize (checkK xs3).1 = r1 at hck6
                replace hck6 := Lib.hid hck6
                clear hg6 hacc6 hacc5 hr6 hi6 hb5
                refine hK.out _ _ trivial (fun hHeld => ?_)
                clear hK K
                try simp only [Act.put, List.getElem_toArray, List.getElem_cons_zero, List.getElem_cons_succ, List.setIfInBounds_toArray, List.set_cons_zero, List.set_cons_succ]
                refine wpAnyH_ready (rs := [10]) (by kernel_rfl) (by simp) ?_
                refine AllReadyH.cons (o := _) rfl (fun K hK => ?_) AllReadyH.nil
                go_simp
                go_at_call 22
                refine hck6.out.mono ?_
                rintro e V7 ⟨hk7, rfl⟩
                have hb7 := Lib.hid (hb6.trans (hk7.mono hb6.size))
                clear hk7 hck6 hb6
                refine hK.out _ _ trivial (fun hHeld => ?_)
                clear hK K
                try simp only [Act.put, List.getElem_toArray, List.getElem_cons_zero, List.getElem_cons_succ, List.setIfInBounds_toArray, List.set_cons_zero, List.set_cons_succ]
                refine' wpAnyH_take (i := 11) (oi := _) (v := _) rfl (by kernel_rfl) (by kernel_rfl) (by kernel_rfl) (fun _ _ _ h => h) (Or.inl ⟨by rfl, ?hyq11⟩) (by assumption) ?restq11
                case hyq11 => (intro w hSw; go_simp; all_goals (with_reducible rfl))
                try simp only [Act.put, List.getElem_toArray, List.getElem_cons_zero, List.getElem_cons_succ, List.setIfInBounds_toArray, List.set_cons_zero, List.set_cons_succ]
                refine' wpAnyH_take (i := 12) (oi := _) (v := _) rfl (by kernel_rfl) (by kernel_rfl) (by kernel_rfl) (fun _ _ _ h => h) (Or.inl ⟨by rfl, ?hyq12⟩) (by assumption) ?restq12
                case hyq12 => (intro w hSw; go_simp; all_goals (with_reducible rfl))
                try simp only [Act.put, List.getElem_toArray, List.getElem_cons_zero, List.getElem_cons_succ, List.setIfInBounds_toArray, List.set_cons_zero, List.set_cons_succ]
                refine' wpAnyH_take (i := 13) (oi := _) (v := _) rfl (by kernel_rfl) (by kernel_rfl) (by kernel_rfl) (fun _ _ _ h => h) (Or.inl ⟨by rfl, ?hyq13⟩) (by assumption) ?restq13
                case hyq13 => (intro w hSw; go_simp; all_goals (with_reducible rfl))
                try simp only [Act.put, List.getElem_toArray, List.getElem_cons_zero, List.getElem_cons_succ, List.setIfInBounds_toArray, List.set_cons_zero, List.set_cons_succ]
                refine' wpAnyH_take (i := 14) (oi := _) (v := _) rfl (by kernel_rfl) (by kernel_rfl) (by kernel_rfl) (fun _ _ _ h => h) (Or.inl ⟨by rfl, ?hyq14⟩) (by assumption) ?restq14
                case hyq14 => (intro w hSw; go_simp; all_goals (with_reducible rfl))
                try simp only [Act.put, List.getElem_toArray, List.getElem_cons_zero, List.getElem_cons_succ, List.setIfInBounds_toArray, List.set_cons_zero, List.set_cons_succ]
                refine' wpAnyH_take (i := 15) (oi := _) (v := _) rfl (by kernel_rfl) (by kernel_rfl) (by kernel_rfl) (fun _ _ _ h => h) (Or.inl ⟨by rfl, ?hyq15⟩) (by assumption) ?restq15
                case hyq15 => (intro w hSw; go_simp; all_goals (with_reducible rfl))
                try simp only [Act.put, List.getElem_toArray, List.getElem_cons_zero, List.getElem_cons_succ, List.setIfInBounds_toArray, List.set_cons_zero, List.set_cons_succ]
                refine wpAnyH_done (by kernel_rfl) ?_ _
                refine NoPanic.normal ?_
                go_wp2_with fail
                go_ret
                exact ⟨rfl, hb7.out⟩
end Go.Proofs.YtpcdlneompnhlaaGreatDoor.Ty

namespace Go.Proofs.YtpcdlneompnhlaaGreatDoor.Tr
open Go Go.RowKit Go.ChangeShapes Go.WideShapes Go.ChangeAt
open Go.Proofs.YtpcdlneompnhlaaGreatDoor.Lx Go.Proofs.YtpcdlneompnhlaaGreatDoor.Pa
set_option maxRecDepth 100000

instance : Inhabited Ex := ⟨.mk 0 ⟨#[]⟩ 0 none 0 [] 0⟩

theorem exIn_all {w : World} {S : Nat → Prop} : ∀ (l : List Ex), (∀ (i : Nat) (e : Ex), l[i]? = some e → Ex.In w S e) → Ex.InL w S l
  | [], _ => by unfold Ex.InL; trivial
  | x :: r, h => by
    unfold Ex.InL
    exact ⟨h 0 x rfl, exIn_all r fun i e he => h (i + 1) e (by simpa using he)⟩

theorem exSz_le : ∀ (l : List Ex) (ds : List Nat), l.length = ds.length → (∀ (i : Nat) (e : Ex) (d : Nat), l[i]? = some e → ds[i]? = some d → e.sz ≤ d) → Ex.szL l ≤ ds.sum
  | [], _, _, _ => by unfold Ex.szL; omega
  | x :: r, [], hl, _ => by simp at hl
  | x :: r, d :: ds, hl, h => by
    have h0 := h 0 x d rfl rfl
    have h1 := exSz_le r ds (by simpa using hl) fun i e d' he hd => h (i + 1) e d' (by simpa using he) (by simpa using hd)
    unfold Ex.szL
    rw [List.sum_cons]
    omega

theorem bulkAll_sum {H : Type} : ∀ l : List (DataW H), Rows.uptoBulkAll l = (l.map Rows.uptoBulk).sum
  | [] => rfl
  | d :: r => by
    rw [Rows.uptoBulkAll, bulkAll_sum r, List.map_cons, List.sum_cons]

theorem cells_at {w : World} {base : Nat} {a : Addr} {n : Nat} {cs : List Value} (h : w.cells? base a n = some cs) : cs.length = n ∧ ∀ j u, cs[j]? = some u → w.cell? (a.add j) = some u := by
  unfold World.cells? at h
  split at h
  · have hl : cs.length = n := by simpa using Lib.mapM_length h
    refine ⟨hl, fun j u hu => ?_⟩
    have hj : j < n := by rw [← hl]; exact (List.getElem?_eq_some_iff.1 hu).1
    obtain ⟨b, hb, hf⟩ := Lib.mapM_at h j j (by simp [hj])
    rw [hf]
    rw [hb] at hu
    exact hu
  · cases h

theorem exCells_len : ∀ l : List Ex, (exCells l).length = l.length * 5
  | [] => rfl
  | e :: r => by
    show (Ex.vals e ++ exCells r).length = _
    rw [List.length_append, Ex.vals_len, exCells_len r, List.length_cons]
    omega
theorem five {α : Type} {l : List α} (h : l.length = 5) : ∃ a b c d e, l = [a, b, c, d, e] := by
  match l, h with
  | [a, b, c, d, e], _ => exact ⟨a, b, c, d, e, rfl⟩

theorem cell1_k : Tryz.prog.cellsOf 5 = 1 := by kernel_rfl
theorem cell1_a : Tryz.prog.cellsOf 58 = 1 := by kernel_rfl
theorem cells5e : Tryz.prog.cellsOf 62 = 5 := by kernel_rfl

section
variable {H : Type} {enc : TypeId × Value → H} {w : World}

theorem open_ex (sp : Nat → Bool) (hd : Bool) : ∀ (fuel : Nat) (cs : List Value) (x : DataW H × List MemPlace), DataW.trod enc Tryz.prog w 0 sp hd fuel 62 cs = some x →
    ∃ e : Ex, cs = e.vals ∧ Ex.In w (fun _ => True) e ∧ e.sz ≤ Rows.uptoBulk x.1 := by
  intro fuel
  induction fuel using Nat.strongRecOn with
  | ind fuel ih =>
    intro cs x h
    obtain ⟨xs, n, rfl, rfl, hl, hxl, hf⟩ := DataW.trod_struct Tryz.underlying62 h
    obtain ⟨c0, c1, c2, c3, c4, rfl⟩ := five (hl.trans cells5e)
    obtain ⟨x0, x1, x2, x3, x4, rfl⟩ := five hxl
    have h0 := hf 0 _ rfl
    have h1 := hf 1 _ rfl
    have h2 := hf 2 _ rfl
    have h3 := hf 3 _ rfl
    have h4 := hf 4 _ rfl
    simp only [List.getElem?_cons_zero, List.getElem?_cons_succ] at h0 h1 h2 h3 h4
    obtain ⟨k, e0, rfl, w0⟩ := DataW.trod_int Tryz.underlying5 h0
    obtain ⟨s, e1, rfl, w1⟩ := DataW.trod_string Tryz.underlying9 h1
    obtain ⟨m, e2, rfl, w2⟩ := DataW.trod_int Tryz.underlying2 h2
    obtain ⟨q, e4, rfl, w4⟩ := DataW.trod_int Tryz.underlying3 h4
    obtain rfl := (List.cons.inj e0).1
    obtain rfl := (List.cons.inj e1).1
    obtain rfl := (List.cons.inj e2).1
    obtain rfl := (List.cons.inj e4).1
    have hk : U8 k := bounds_u8 w0
    have hm : I64 m := bounds_i64 w2
    have hq : I64 q := bounds_i64 w4
    rcases DataW.trod_slice Tryz.underlying58 h3 with ⟨e3, rfl⟩ | ⟨a, len, cap, elems, rest, n', rfl, e3, rfl, hb, hle, hcap, hlen, hel, hsp, hns⟩
    · obtain rfl := (List.cons.inj e3).1
      refine ⟨.mk k s m none 0 [] q, rfl, ?_, ?_⟩
      · unfold Ex.In Ex.InL
        exact ⟨hk, w1, hm, hq, ⟨Nat.le_refl _, by decide, fun _ => rfl, fun j u hj => by simp [exCells] at hj⟩, trivial⟩
      · unfold Ex.sz Ex.szL
        simp only [List.map_cons, List.map_nil, Rows.uptoBulk, Rows.uptoBulkAll]
        omega
    · obtain rfl := (List.cons.inj e3).1
      rw [cells5e] at hel
      have hall : ∀ i, i < len → ∃ e : Ex, ∃ cs' y, w.cells? 0 (a.add (i * 5)) 5 = some cs' ∧ elems[i]? = some y ∧ cs' = e.vals ∧ Ex.In w (fun _ => True) e ∧ e.sz ≤ Rows.uptoBulk y.1 := by
        intro i hi
        have h5 := hel i hi
        rw [List.getElem?_eq_getElem (by omega : i < elems.length)] at h5
        obtain ⟨cs', hc, ht⟩ := Option.bind_eq_some_iff.1 h5
        obtain ⟨e, he1, he2, he3⟩ := ih n' (by omega) _ _ ht
        exact ⟨e, cs', _, hc, List.getElem?_eq_getElem (by omega), he1, he2, he3⟩
      obtain ⟨F, hF⟩ := Deep.choose_lt hall
      have hL : ((List.range len).map F).length = len := by simp
      have hget : ∀ i e, ((List.range len).map F)[i]? = some e → i < len ∧ e = F i := fun i e he => by
        have hi : i < len := by have := (List.getElem?_eq_some_iff.1 he).1; simpa using this
        refine ⟨hi, ?_⟩
        rw [List.getElem?_map, List.getElem?_range hi] at he
        exact (Option.some.inj he).symm
      refine ⟨.mk k s m (some a) cap ((List.range len).map F) q, by
        show _ = [Value.int .u8 k, .string s, .int .i64 m, .slice (some a) ((List.range len).map F).length cap, .int .i64 q]
        rw [hL], ?_, ?_⟩
      · unfold Ex.In
        refine ⟨hk, w1, hm, hq, ⟨by rw [hL]; exact hle, hcap, (fun h => by cases h), fun j u hj => ?_⟩, exIn_all _ fun i e he => by
          obtain ⟨hi, rfl⟩ := hget i e he
          obtain ⟨_, _, _, _, _, h, _⟩ := hF i hi
          exact h⟩
        have hjl : j < len * 5 := by
          have := (List.getElem?_eq_some_iff.1 hj).1
          rw [exCells_len, hL] at this
          omega
        have hi : j / 5 < len := by omega
        have hj' : j = j / 5 * 5 + j % 5 := by omega
        rw [hj', exCells, flat_at Ex.vals 5 Ex.vals_len _ (j / 5) (j % 5) (F (j / 5)) (by rw [List.getElem?_map, List.getElem?_range hi]; rfl) (Nat.mod_lt _ (by omega))] at hj
        obtain ⟨cs', y, hc, _, rfl, _, _⟩ := hF (j / 5) hi
        have hcell := (cells_at hc).2 _ _ hj
        rw [Deep.add_add, ← hj'] at hcell
        obtain ⟨b, off, spot⟩ := a
        have hspot : spot = none := by
          obtain ⟨cs0, y0, hc0, _, rfl, _, _⟩ := hF 0 (by omega)
          obtain ⟨u0, hu0⟩ : ∃ u0, (F 0).vals[0]? = some u0 := ⟨_, List.getElem?_eq_getElem (by rw [Ex.vals_len]; omega)⟩
          simpa [Addr.add] using World.cell?_spot ((cells_at hc0).2 0 u0 hu0)
        subst hspot
        exact ⟨b, off, rfl, trivial, by rw [← Go.WideShapes.add_plain]; exact hcell⟩
      · have hsz : Ex.szL ((List.range len).map F) ≤ ((elems.map (·.1)).map Rows.uptoBulk).sum := exSz_le _ _ (by simp [hlen]) fun i e d he hd => by
          obtain ⟨hi, rfl⟩ := hget i e he
          obtain ⟨_, y, _, hy, _, _, hz⟩ := hF i hi
          rw [List.getElem?_map, List.getElem?_map, hy] at hd
          obtain rfl := Option.some.inj hd
          exact hz
        unfold Ex.sz
        simp only [List.map_cons, List.map_nil, Rows.uptoBulk, bulkAll_sum, List.sum_cons, List.sum_nil]
        omega
end
end Go.Proofs.YtpcdlneompnhlaaGreatDoor.Tr

namespace Go.Proofs.YtpcdlneompnhlaaGreatDoor.Tr
open Go Go.RowKit Go.ChangeShapes Go.WideShapes Go.ChangeAt Go.ChangeMaps
open Go.Proofs.YtpcdlneompnhlaaGreatDoor.Lx Go.Proofs.YtpcdlneompnhlaaGreatDoor.Pa
set_option maxRecDepth 100000

instance : Inhabited St := ⟨.mk 0 ⟨#[]⟩ ⟨#[]⟩ false none 0 [] none 0 [] none 0 [] 0⟩
instance : Inhabited De := ⟨⟨0, ⟨#[]⟩, 0, none, 0, [], none, 0, [], 0⟩⟩
theorem six {α : Type} {l : List α} (h : l.length = 6) : ∃ a b c d e f, l = [a, b, c, d, e, f] := by
  match l, h with
  | [a, b, c, d, e, f], _ => exact ⟨a, b, c, d, e, f, rfl⟩
theorem eight {α : Type} {l : List α} (h : l.length = 8) : ∃ a b c d e f g i, l = [a, b, c, d, e, f, g, i] := by
  match l, h with
  | [a, b, c, d, e, f, g, i], _ => exact ⟨a, b, c, d, e, f, g, i, rfl⟩
theorem flat_len {α : Type} (f : α → List Value) (c : Nat) (hc : ∀ x, (f x).length = c) : ∀ l : List α, (l.flatMap f).length = l.length * c
  | [] => by simp
  | e :: r => by
    rw [List.flatMap_cons, List.length_append, hc, flat_len f c hc r, List.length_cons, Nat.succ_mul, Nat.add_comm]
theorem sum_le {α : Type} (sz : α → Nat) : ∀ (l : List α) (ds : List Nat), l.length = ds.length → (∀ (i : Nat) (e : α) (d : Nat), l[i]? = some e → ds[i]? = some d → sz e ≤ d) → (l.map sz).sum ≤ ds.sum
  | [], _, _, _ => by simp
  | x :: r, [], hl, _ => by simp at hl
  | x :: r, d :: ds, hl, h => by
    have h0 := h 0 x d rfl rfl
    have h1 := sum_le sz r ds (by simpa using hl) fun i e d he hd => h (i + 1) e d (by simpa using he) (by simpa using hd)
    simp only [List.map_cons, List.sum_cons]
    omega

section
variable {H : Type} {enc : TypeId × Value → H} {w : World}

/-- a list that reads is a list of what its elements read as -/
theorem open_row {α : Type} [Inhabited α] {P : Program} (f : α → List Value) (c : Nat) (hc : ∀ x, (f x).length = c) (hc0 : 0 < c) (In : α → Prop) (sz : α → Nat) {sp : Nat → Bool} {hd : Bool} {t e : TypeId} (ht : P.underlying t = some (.slice e)) (hce : P.cellsOf e = c)
    {fuel : Nat} {cs : List Value} {x : DataW H × List MemPlace} (h : DataW.trod enc P w 0 sp hd fuel t cs = some x)
    (hel : ∀ m, m < fuel → ∀ cs x, DataW.trod enc P w 0 sp hd m e cs = some x → ∃ a, cs = f a ∧ In a ∧ sz a ≤ Rows.uptoBulk x.1) :
    ∃ (a : Option Addr) (cap : Nat) (l : List α), cs = [.slice a l.length cap] ∧ RowAt w (fun _ => True) a cap l.length (l.flatMap f) ∧ (∀ (i : Nat) (y : α), l[i]? = some y → In y) ∧ (l.map sz).sum + 1 ≤ Rows.uptoBulk x.1 := by
  rcases DataW.trod_slice ht h with ⟨e3, rfl⟩ | ⟨a, len, cap, elems, rest, n', rfl, e3, rfl, hb, hle, hcap, hlen, hel', hsp, hns⟩
  · refine ⟨none, 0, [], e3, ⟨Nat.le_refl _, by decide, fun _ => rfl, fun j u hj => by simp at hj⟩, fun i y hy => by simp at hy, ?_⟩
    simp [Rows.uptoBulk]
  · rw [hce] at hel'
    have hall : ∀ i, i < len → ∃ y : α, ∃ cs' d, w.cells? 0 (a.add (i * c)) c = some cs' ∧ elems[i]? = some d ∧ cs' = f y ∧ In y ∧ sz y ≤ Rows.uptoBulk d.1 := by
      intro i hi
      have h5 := hel' i hi
      rw [List.getElem?_eq_getElem (by omega : i < elems.length)] at h5
      obtain ⟨cs', hcc, ht'⟩ := Option.bind_eq_some_iff.1 h5
      obtain ⟨y, h1, h2, h3⟩ := hel n' (by omega) _ _ ht'
      exact ⟨y, cs', _, hcc, List.getElem?_eq_getElem (by omega), h1, h2, h3⟩
    obtain ⟨F, hF⟩ := Deep.choose_lt hall
    have hL : ((List.range len).map F).length = len := by simp
    have hget : ∀ i y, ((List.range len).map F)[i]? = some y → i < len ∧ y = F i := fun i y he => by
      have hi : i < len := by have := (List.getElem?_eq_some_iff.1 he).1; simpa using this
      refine ⟨hi, ?_⟩
      rw [List.getElem?_map, List.getElem?_range hi] at he
      exact (Option.some.inj he).symm
    refine ⟨some a, cap, (List.range len).map F, by rw [hL]; exact e3, ⟨by rw [hL]; exact hle, hcap, (fun h => by cases h), fun j u hj => ?_⟩, fun i y he => by
      obtain ⟨hi, rfl⟩ := hget i y he
      obtain ⟨_, _, _, _, _, h, _⟩ := hF i hi
      exact h, ?_⟩
    · have hjl : j < len * c := by
        have := (List.getElem?_eq_some_iff.1 hj).1
        rw [flat_len f c hc, hL] at this
        exact this
      have hi : j / c < len := by rw [Nat.div_lt_iff_lt_mul hc0]; exact hjl
      have hj' : j = j / c * c + j % c := by rw [Nat.mul_comm]; exact (Nat.div_add_mod j c).symm
      rw [hj', flat_at f c hc _ (j / c) (j % c) (F (j / c)) (by rw [List.getElem?_map, List.getElem?_range hi]; rfl) (Nat.mod_lt _ hc0)] at hj
      obtain ⟨cs', y, hcc, _, rfl, _, _⟩ := hF (j / c) hi
      have hcell := (cells_at hcc).2 _ _ hj
      rw [Deep.add_add, ← hj'] at hcell
      obtain ⟨b, off, spot⟩ := a
      have hspot : spot = none := by
        obtain ⟨cs0, y0, hc0', _, rfl, _, _⟩ := hF 0 (Nat.lt_of_le_of_lt (Nat.zero_le _) hi)
        obtain ⟨u0, hu0⟩ : ∃ u0, (f (F 0))[0]? = some u0 := ⟨_, List.getElem?_eq_getElem (by rw [hc]; exact hc0)⟩
        simpa [Addr.add] using World.cell?_spot ((cells_at hc0').2 0 u0 hu0)
      subst hspot
      exact ⟨b, off, rfl, trivial, by rw [← Go.WideShapes.add_plain]; exact hcell⟩
    · have hsz : (((List.range len).map F).map sz).sum ≤ ((elems.map (·.1)).map Rows.uptoBulk).sum := sum_le sz _ _ (by simp [hlen]) fun i y d he hd => by
        obtain ⟨hi, rfl⟩ := hget i y he
        obtain ⟨_, z, _, hy, _, _, hz⟩ := hF i hi
        rw [List.getElem?_map, List.getElem?_map, hy] at hd
        obtain rfl := Option.some.inj hd
        exact hz
      simp only [Rows.uptoBulk, bulkAll_sum]
      omega

theorem stCells_eq (l : List St) : stCells l = l.flatMap St.vals := rfl
theorem exSz_sum : ∀ l : List Ex, Ex.szL l = (l.map Ex.sz).sum
  | [] => by unfold Ex.szL; rfl
  | e :: r => by unfold Ex.szL; rw [exSz_sum r]; simp
theorem stSz_sum : ∀ l : List St, St.szL l = (l.map St.sz).sum
  | [] => by unfold St.szL; rfl
  | e :: r => by unfold St.szL; rw [stSz_sum r]; simp
theorem stIn_all {w : World} {S : Nat → Prop} : ∀ (l : List St), (∀ (i : Nat) (e : St), l[i]? = some e → St.In w S e) → St.InL w S l
  | [], _ => by unfold St.InL; trivial
  | x :: r, h => by
    unfold St.InL
    exact ⟨h 0 x rfl, stIn_all r fun i e he => h (i + 1) e (by simpa using he)⟩
theorem cells8s : Tryz.prog.cellsOf 60 = 8 := by kernel_rfl
theorem cells6d : Tryz.prog.cellsOf 31 = 6 := by kernel_rfl
theorem cell1_bo : Tryz.prog.cellsOf 4 = 1 := by kernel_rfl
theorem cell1_st : Tryz.prog.cellsOf 9 = 1 := by kernel_rfl

theorem open_exL (sp : Nat → Bool) (hd : Bool) (fuel : Nat) (cs : List Value) (x : DataW H × List MemPlace) (h : DataW.trod enc Tryz.prog w 0 sp hd fuel 58 cs = some x) :
    ∃ (a : Option Addr) (cap : Nat) (l : List Ex), cs = [.slice a l.length cap] ∧ RowAt w (fun _ => True) a cap l.length (exCells l) ∧ Ex.InL w (fun _ => True) l ∧ Ex.szL l + 1 ≤ Rows.uptoBulk x.1 := by
  obtain ⟨a, cap, l, h1, h2, h3, h4⟩ := open_row Ex.vals 5 Ex.vals_len (by omega) (Ex.In w (fun _ => True)) Ex.sz Tryz.underlying58 cells5e h fun m _ cs x hx => open_ex sp hd m cs x hx
  exact ⟨a, cap, l, h1, h2, exIn_all l h3, by rw [exSz_sum]; exact h4⟩

theorem open_st (sp : Nat → Bool) (hd : Bool) : ∀ (fuel : Nat) (cs : List Value) (x : DataW H × List MemPlace), DataW.trod enc Tryz.prog w 0 sp hd fuel 60 cs = some x →
    ∃ e : St, cs = e.vals ∧ St.In w (fun _ => True) e ∧ e.sz ≤ Rows.uptoBulk x.1 := by
  intro fuel
  induction fuel using Nat.strongRecOn with
  | ind fuel ih =>
    intro cs x h
    obtain ⟨xs, n, hn, rfl, hl, hxl, hf⟩ := DataW.trod_struct Tryz.underlying60 h
    obtain ⟨c0, c1, c2, c3, c4, c5, c6, c7, rfl⟩ := eight (hl.trans cells8s)
    obtain ⟨x0, x1, x2, x3, x4, x5, x6, x7, rfl⟩ := eight hxl
    have h0 := hf 0 _ rfl
    have h1 := hf 1 _ rfl
    have h2 := hf 2 _ rfl
    have h3 := hf 3 _ rfl
    have h4 := hf 4 _ rfl
    have h5 := hf 5 _ rfl
    have h6 := hf 6 _ rfl
    have h7 := hf 7 _ rfl
    simp only [List.getElem?_cons_zero, List.getElem?_cons_succ] at h0 h1 h2 h3 h4 h5 h6 h7
    obtain ⟨k, e0, rfl, w0⟩ := DataW.trod_int Tryz.underlying5 h0
    obtain ⟨s, e1, rfl, w1⟩ := DataW.trod_string Tryz.underlying9 h1
    obtain ⟨s2, e2, rfl, w2⟩ := DataW.trod_string Tryz.underlying9 h2
    obtain ⟨nw, e3, rfl⟩ := DataW.trod_bool Tryz.underlying4 h3
    obtain ⟨q, e7, rfl, w7⟩ := DataW.trod_int Tryz.underlying3 h7
    obtain rfl := (List.cons.inj e0).1
    obtain rfl := (List.cons.inj e1).1
    obtain rfl := (List.cons.inj e2).1
    obtain rfl := (List.cons.inj e3).1
    obtain rfl := (List.cons.inj e7).1
    have hk : U8 k := bounds_u8 w0
    have hq : I64 q := bounds_i64 w7
    obtain ⟨a4, p4, l4, e4, r4, i4, z4⟩ := open_exL sp hd _ _ _ h4
    obtain ⟨a5, p5, l5, e5, r5, i5, z5⟩ := open_row St.vals 8 St.vals_len (by omega) (St.In w (fun _ => True)) St.sz Tryz.underlying29 cells8s h5 fun m hm cs x hx => ih m (by omega) cs x hx
    obtain ⟨a6, p6, l6, e6, r6, i6, z6⟩ := open_row St.vals 8 St.vals_len (by omega) (St.In w (fun _ => True)) St.sz Tryz.underlying29 cells8s h6 fun m hm cs x hx => ih m (by omega) cs x hx
    obtain rfl := (List.cons.inj e4).1
    obtain rfl := (List.cons.inj e5).1
    obtain rfl := (List.cons.inj e6).1
    refine ⟨.mk k s s2 nw a4 p4 l4 a5 p5 l5 a6 p6 l6 q, rfl, ?_, ?_⟩
    · unfold St.In
      exact ⟨hk, w1, w2, hq, r4, i4, r5, stIn_all _ i5, r6, stIn_all _ i6⟩
    · unfold St.sz
      rw [stSz_sum, stSz_sum]
      simp only [List.map_cons, List.map_nil, Rows.uptoBulk, bulkAll_sum, List.sum_cons, List.sum_nil]
      omega

theorem open_de (sp : Nat → Bool) (hd : Bool) (fuel : Nat) (cs : List Value) (x : DataW H × List MemPlace) (h : DataW.trod enc Tryz.prog w 0 sp hd fuel 31 cs = some x) :
    ∃ e : De, cs = e.vals ∧ De.In w (fun _ => True) e ∧ 1 + St.szL e.body ≤ Rows.uptoBulk x.1 := by
  obtain ⟨xs, n, hn, rfl, hl, hxl, hf⟩ := DataW.trod_struct Tryz.underlying31 h
  obtain ⟨c0, c1, c2, c3, c4, c5, rfl⟩ := six (hl.trans cells6d)
  obtain ⟨x0, x1, x2, x3, x4, x5, rfl⟩ := six hxl
  have h0 := hf 0 _ rfl
  have h1 := hf 1 _ rfl
  have h2 := hf 2 _ rfl
  have h3 := hf 3 _ rfl
  have h4 := hf 4 _ rfl
  have h5 := hf 5 _ rfl
  simp only [List.getElem?_cons_zero, List.getElem?_cons_succ] at h0 h1 h2 h3 h4 h5
  obtain ⟨k, e0, rfl, w0⟩ := DataW.trod_int Tryz.underlying5 h0
  obtain ⟨s, e1, rfl, w1⟩ := DataW.trod_string Tryz.underlying9 h1
  obtain ⟨m, e2, rfl, w2⟩ := DataW.trod_int Tryz.underlying2 h2
  obtain ⟨q, e5, rfl, w5⟩ := DataW.trod_int Tryz.underlying3 h5
  obtain rfl := (List.cons.inj e0).1
  obtain rfl := (List.cons.inj e1).1
  obtain rfl := (List.cons.inj e2).1
  obtain rfl := (List.cons.inj e5).1
  obtain ⟨a3, p3, l3, e3, r3, i3, z3⟩ := open_row (fun s : ByteArray => [Value.string s]) 1 (fun _ => rfl) (by omega) (fun s => s.size ≤ maxLen) (fun _ => 0) Tryz.underlying28 cell1_st h3 fun m hm cs x hx => by
    obtain ⟨s, e, rfl, w⟩ := DataW.trod_string Tryz.underlying9 hx
    exact ⟨s, e, w, Nat.zero_le _⟩
  obtain ⟨a4, p4, l4, e4, r4, i4, z4⟩ := open_row St.vals 8 St.vals_len (by omega) (St.In w (fun _ => True)) St.sz Tryz.underlying29 cells8s h4 fun m hm cs x hx => open_st sp hd m cs x hx
  obtain rfl := (List.cons.inj e3).1
  obtain rfl := (List.cons.inj e4).1
  refine ⟨⟨k, s, m, a3, p3, l3, a4, p4, l4, q⟩, rfl, ⟨bounds_u8 w0, w1, bounds_i64 w2, bounds_i64 w5, ?_, ?_, r4, stIn_all _ i4⟩, ?_⟩
  · have : strCells l3 = l3.flatMap fun s => [Value.string s] := by
      unfold strCells
      rw [List.map_eq_flatMap]
    rw [this]
    exact r3
  · intro p hp
    obtain ⟨i, hi⟩ := List.mem_iff_getElem?.1 hp
    exact i3 i p hi
  · rw [stSz_sum]
    simp only [List.map_cons, List.map_nil, Rows.uptoBulk, bulkAll_sum, List.sum_cons, List.sum_nil]
    omega

theorem deSz_sum : ∀ l : List De, De.szL l + l.length = (l.map fun d => 1 + St.szL d.body).sum
  | [] => by unfold De.szL; rfl
  | e :: r => by
    have := deSz_sum r
    unfold De.szL
    simp only [List.map_cons, List.sum_cons, List.length_cons]
    omega
theorem open_deL (sp : Nat → Bool) (hd : Bool) (fuel : Nat) (cs : List Value) (x : DataW H × List MemPlace) (h : DataW.trod enc Tryz.prog w 0 sp hd fuel 22 cs = some x) :
    ∃ (a : Option Addr) (cap : Nat) (l : List De), cs = [.slice a l.length cap] ∧ RowAt w (fun _ => True) a cap l.length (deCells l) ∧ De.InL w (fun _ => True) l ∧ De.szL l + l.length + 1 ≤ Rows.uptoBulk x.1 := by
  obtain ⟨a, cap, l, h1, h2, h3, h4⟩ := open_row De.vals 6 De.vals_len (by omega) (De.In w (fun _ => True)) (fun d => 1 + St.szL d.body) Tryz.underlying22 cells6d h fun m _ cs x hx => open_de sp hd m cs x hx
  refine ⟨a, cap, l, h1, h2, fun d hd => ?_, by rw [deSz_sum]; exact h4⟩
  obtain ⟨i, hi⟩ := List.mem_iff_getElem?.1 hd
  exact h3 i d hi
end
end Go.Proofs.YtpcdlneompnhlaaGreatDoor.Tr
