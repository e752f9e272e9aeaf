/- The contract of Parse. Conditions: the text is not too long for the model; the variables that the packages read hold what they were laid with. -/
import Derived.Test.YtjpmgnpjdikdnaaGreatDoorGrAR
import Derived.Test.YtjpmgnpjdikdnaaGreatDoorGrAS
import Derived.Test.YtjpmgnpjdikdnaaGreatDoorTrK
namespace Go.Proofs.YtjpmgnpjdikdnaaGreatDoor.Pa
open Go Go.RowKit
open Go.Proofs.YtjpmgnpjdikdnaaGreatDoor.Lx Go.Proofs.YtjpmgnpjdikdnaaGreatDoor.Tr

theorem lx_bound : ∀ (f : Nat) (l : List UInt8) (p : Nat) (ts : List Tok), lx f l p = .ok ts → ts.length ≤ l.length ∧ ∀ t ∈ ts, t.txt.length ≤ l.length ∧ t.pos ≤ p + l.length
  | 0, l, p, ts, h => by unfold lx at h; cases h; simp
  | f + 1, l, p, ts, h => by
    unfold lx at h
    by_cases h1 : l.drop (skp false l) = []
    · rw [if_pos h1] at h; cases h; simp
    · rw [if_neg h1] at h
      by_cases h2 : (cutL (l.drop (skp false l))).1 = 0
      · rw [if_pos h2] at h; cases h
      · rw [if_neg h2] at h
        have hb := cutL_bd _ h2
        split at h
        · rename_i us hu
          have ih := lx_bound f _ _ _ hu
          have hd : (l.drop (skp false l)).length = l.length - skp false l := List.length_drop
          have hd2 : ((l.drop (skp false l)).drop (cutL (l.drop (skp false l))).2).length = (l.drop (skp false l)).length - (cutL (l.drop (skp false l))).2 := List.length_drop
          cases h
          refine ⟨by rw [List.length_cons]; omega, fun t ht => ?_⟩
          rcases List.mem_cons.1 ht with rfl | ht
          · simp only [List.length_take]
            omega
          · have := ih.2 t ht
            omega
        · cases h
theorem res_ok {l : List UInt8} {ts : List Tok} {q : Nat} (h : res l = (ts, q, 0)) : q = 0 ∧ l.length ≤ 65536 ∧ ts.length ≤ l.length ∧ ∀ t ∈ ts, t.txt.length ≤ l.length ∧ t.pos ≤ l.length := by
  unfold res at h
  split at h
  · cases h
  · rename_i hl
    split at h
    · rename_i us hu
      cases h
      have := lx_bound _ _ _ _ hu
      exact ⟨rfl, by omega, this.1, fun t ht => ⟨(this.2 t ht).1, by have := (this.2 t ht).2; omega⟩⟩
    · cases h
/-- what Parse answers: declarations, place, number of the error -/
def parseP (s : ByteArray) : List De × Int × Int :=
  if (res s.data.toList).2.2 = 0 then
    match readR (res s.data.toList).1 s.size with
    | .bad p => ([], p, 63)
    | .ok ds _ => if mayP ds = true then (ds, 0, 0) else ([], 0, 40)
  else ([], (res s.data.toList).2.1, (res s.data.toList).2.2)
theorem de_da (d : De) : (da d).er = d.er := by
  have h : ∀ l : List St, St.erL (saL l) = St.erL l := by
    have hE : ∀ l : List Ex, Ex.erL (eaL l) = Ex.erL l := by
      have key : ∀ n (l : List Ex), Ex.szL l ≤ n → Ex.erL (eaL l) = Ex.erL l := by
        intro n
        induction n with
        | zero =>
          intro l hl
          cases l with
          | nil => rw [eaL_nil]
          | cons e r => obtain ⟨k, nm, m, a, cap, args, pos⟩ := e; rw [szEL_cons, szE_mk] at hl; omega
        | succ n ih =>
          intro l
          induction l with
          | nil => intro _; rw [eaL_nil]
          | cons e r ihr =>
            intro hl
            obtain ⟨k, nm, m, a, cap, args, pos⟩ := e
            rw [szEL_cons, szE_mk] at hl
            rw [eaL_cons, Ex.erL_cons, Ex.erL_cons, ea_eq, Ex.er_eq, Ex.er_eq, ih args (by omega), ihr (by omega)]
      exact fun l => key _ l (Nat.le_refl _)
    have key : ∀ n (l : List St), St.szL l ≤ n → St.erL (saL l) = St.erL l := by
      intro n
      induction n with
      | zero =>
        intro l hl
        cases l with
        | nil => rw [saL_nil]
        | cons e r => obtain ⟨k1, n1, t1, nw1, ea1, ec1, e1, ba1, bc1, b1, la1, lc1, l1, p1⟩ := e; rw [szSL_cons, szS_mk] at hl; omega
      | succ n ih =>
        intro l
        induction l with
        | nil => intro _; rw [saL_nil]
        | cons e r ihr =>
          intro hl
          obtain ⟨k1, n1, t1, nw1, ea1, ec1, e1, ba1, bc1, b1, la1, lc1, l1, p1⟩ := e
          rw [szSL_cons, szS_mk] at hl
          rw [saL_cons, St.erL_cons, St.erL_cons, sa_eq, St.er_eq, St.er_eq, hE, ih b1 (by omega), ih l1 (by omega), ihr (by omega)]
    exact fun l => key _ l (Nat.le_refl _)
  unfold da De.er
  rw [h]
theorem may_da (l : List De) : mayP (l.map da) = mayP l := by
  refine mayP_of_er ?_
  unfold De.erL
  rw [List.map_map]
  exact List.map_congr_left fun d _ => de_da d
set_option maxHeartbeats 4000000 in
set_option maxRecDepth 100000 in
theorem parse_c (s : ByteArray) (w : World) (hs : s.size ≤ maxLen) (tb : TbP w) (ht : TabsD w) :
    Calls Tryz.prog 12 #[.string s] w fun e w' => Below w.heap.size w w' ∧ ∃ v, e = .returned (.tuple #[v, .int .i64 (parseP s).2.1, .int .i64 (parseP s).2.2]) ∧ VDs (fun b => w.heap.size ≤ b) (parseP s).1 v w' := by
  have hT := Lib.hid (tokens_any s w hs tb.sg)
  have hsz : s.size = s.data.toList.length := Lib.size_eq s
  obtain ⟨ts, q, en, hres⟩ : ∃ ts q en, res s.data.toList = (ts, q, en) := ⟨_, _, _, rfl⟩
  have hpp : parseP s = if en = 0 then (match readR ts s.size with | .bad p => ([], p, 63) | .ok ds _ => if mayP ds = true then (ds, 0, 0) else ([], 0, 40)) else ([], (q : Int), (en : Int)) := by unfold parseP; rw [hres]
  generalize parseP s = out at hpp ⊢
  have hnil : ∀ W : World, VDs (fun b => w.heap.size ≤ b) [] (.slice none 0 0) W := fun W => ⟨[], none, 0, rfl, row_nil _ _, (fun d hd => by cases hd), rfl⟩
  replace hnil := Lib.hid hnil
  rw [hres] at hT
  simp only at hT
  by_cases he : en = 0
  · subst he
    obtain ⟨hq, hl, hlen, hts⟩ := res_ok hres
    subst hq
    rw [if_pos rfl] at hpp
    have hgl := tb.low
    have hR := Lib.hid fun (v : Value) (W : World) (hb : Below w.heap.size w W) (hown : W.ownsRow w.heap.size 90 3 v ts.length (cellsOf ts)) => read_c ts s.size v W w.heap.size hb.size hown (by omega) (fun t h => by have := hts t h; omega) (by omega) (tb.low_keep hgl hb) hgl
    have hM := Lib.hid fun (l : List De) (a : Option Addr) (cap : Nat) (W : World) (hrow : RowAt W (fun _ => True) a cap l.length (deCells l)) (hin : De.InL W (fun _ => True) l) (hsz : De.szL l ≤ 4194304) (hb : Below w.heap.size w W) => mayP_any l a cap W hrow hin hsz (ht.below hb)
    replace hpp := Lib.hid hpp
    clear hts tb ht hgl hres hsz hl hlen
    go_enter Tryz.func12, Tryz.ntmps12
    go_wp2_with fail
    refine hT.out.mono ?_
    rintro e w2 ⟨v2, rfl, hown, hb2, _⟩
    replace hown := Lib.hid hown
    replace hb2 := Lib.hid hb2
    clear hT
    go_wp2_with fail
    refine (hR.out v2 w2 hb2.out hown.out).mono ?_
    rintro e w3 ⟨hb3, hm⟩
    clear hown
    cases hrd : readR ts s.size with
    | bad p =>
      rw [hrd] at hm
      simp only at hm
      subst hm
      have hp2 := hpp.out
      rw [hrd] at hp2
      simp only at hp2
      have hB := Lib.hid (hb2.out.trans hb3)
      clear hpp
      subst hp2
      clear hrd hR hM hb2 hb3
      go_wp2_with fail
      go_ret3
      exact ⟨hB.out, _, rfl, hnil.out _⟩
    | ok ds j =>
      rw [hrd] at hm
      obtain ⟨hj, v, rfl, l, a, cap, rfl, h1, h2, rfl⟩ := hm
      have hp2 := hpp.out
      rw [hrd] at hp2
      simp only at hp2
      have hsz2 : De.szL l ≤ 4194304 := by
        unfold readR at hrd
        have := declsR_sz _ _ _ (Nat.zero_le _) hrd
        rw [sz_da, szD_nil] at this
        omega
      have hB := hb2.out.trans hb3
      have hMy := Lib.hid (hM.out l a cap w3 (h1.mono fun _ _ => trivial) (h2.mono fun _ _ => trivial) hsz2 hB)
      rw [may_da] at hp2
      replace hB := Lib.hid hB
      replace hp2 := Lib.hid hp2
      replace h1 := Lib.hid h1
      replace h2 := Lib.hid h2
      clear hpp hrd hR hM hb2 hb3 hsz2 hj
      generalize mayP l = m at hMy hp2
      go_wp2_with fail
      refine hMy.out.mono ?_
      rintro e w4 ⟨rfl, hb4⟩
      have hB4 := Lib.hid (hB.out.trans (hb4.mono hB.out.size))
      replace hb4 := Lib.hid hb4
      cases m with
      | true =>
        have hp3 := hp2.out
        rw [if_pos rfl] at hp3
        clear hp2
        subst hp3
        go_wp2_with fail
        go_ret3
        exact ⟨hB4.out, _, rfl, l, a, cap, rfl, h1.out.below (Kps.of_below hb4.out), h2.out.below (Kps.of_below hb4.out), rfl⟩
      | false =>
        have hp3 := hp2.out
        rw [if_neg (by decide)] at hp3
        clear hp2
        subst hp3
        go_wp2_with fail
        go_ret3
        exact ⟨hB4.out, _, rfl, hnil.out _⟩
  · rw [if_neg he] at hpp
    subst hpp
    have hne : ((en : Int) == 0) = false := by simp; omega
    have hne2 : ((en : Int) != 0) = true := by simp; omega
    clear ht tb hsz hres
    go_enter Tryz.func12, Tryz.ntmps12
    go_wp2_with fail
    refine hT.out.mono ?_
    rintro e w2 ⟨v2, rfl, hown, hb2, _⟩
    replace hb2 := Lib.hid hb2
    clear hown hT
    go_wp2_with fail
    go_ret3
    exact ⟨hb2.out, _, rfl, hnil.out _⟩
end Go.Proofs.YtjpmgnpjdikdnaaGreatDoor.Pa
