/- Walks of tree.fitsTo, fitsStmt, part.fits at a statement. Conditions: the package's tables hold their lists. -/
import Derived.Test.YtolmhcdcfnoicaaDoorTrD
namespace Go.Proofs.YtolmhcdcfnoicaaDoor.Tr
open Go Go.RowKit
open Go.Proofs.YtolmhcdcfnoicaaDoor.Lx

/-- what a Kind of statements has -/
def stName (k : Int) : Bool := k == 1 || k == 2 || k == 3 || k == 6 || k == 8
def stLeast (k : Int) : Int := if k = 3 then 2 else if k = 0 ∨ k = 6 ∨ k = 8 then 0 else 1
def stMost (k : Int) : Int := if k = 8 then 8 else if k = 3 then 2 else if k = 0 ∨ k = 6 then 0 else 1
def stBody (k : Int) : Bool := k == 4 || k == 5 || k == 6
def stOther (k : Int) : Bool := k == 4
def stTo (k : Int) : Bool := k == 8
def stVals : Array Value := ((List.range 10).flatMap fun (i : Nat) => [Value.bool (stName (i : Int)), .int .i64 (stLeast (i : Int)), .int .i64 (stMost (i : Int)), .bool (stBody (i : Int)), .bool (stOther (i : Int)), .bool (stTo (i : Int))]).toArray
def StTab (w : World) : Prop := ∃ t fr, w.heap[1]? = some (.cells stVals t fr)
theorem StTab.below {w w' : World} (h : StTab w) (hb : Below w.heap.size w w') : StTab w' := by
  obtain ⟨t, fr, hg⟩ := h
  exact ⟨t, fr, (hb.block _ (Array.getElem?_eq_some_iff.1 hg).1).trans hg⟩
theorem stTab_at {w : World} (h : StTab w) (k : Int) (h0 : 0 ≤ k) (h1 : k ≤ 9) :
    w.cell? ⟨1, k.toNat * 6, none⟩ = some (.bool (stName k)) ∧ w.cell? ⟨1, k.toNat * 6 + 1, none⟩ = some (.int .i64 (stLeast k)) ∧ w.cell? ⟨1, k.toNat * 6 + 2, none⟩ = some (.int .i64 (stMost k)) ∧
    w.cell? ⟨1, k.toNat * 6 + 3, none⟩ = some (.bool (stBody k)) ∧ w.cell? ⟨1, k.toNat * 6 + 4, none⟩ = some (.bool (stOther k)) ∧ w.cell? ⟨1, k.toNat * 6 + 5, none⟩ = some (.bool (stTo k)) := by
  obtain ⟨t, fr, hg⟩ := h
  obtain ⟨m, rfl⟩ : ∃ m : Nat, k = m := ⟨k.toNat, by omega⟩
  rw [Int.toNat_natCast]
  have hc : ∀ j, w.cell? ⟨1, j, none⟩ = stVals[j]? := fun j => by simp [World.cell?, hg]
  rw [hc, hc, hc, hc, hc, hc]
  have hm : m < 10 := by omega
  clear hg hc h0 h1
  have hd : m = 0 ∨ m = 1 ∨ m = 2 ∨ m = 3 ∨ m = 4 ∨ m = 5 ∨ m = 6 ∨ m = 7 ∨ m = 8 ∨ m = 9 := by omega
  rcases hd with rfl | rfl | rfl | rfl | rfl | rfl | rfl | rfl | rfl | rfl <;> exact ⟨rfl, rfl, rfl, rfl, rfl, rfl⟩

/-- may a statement's To and New be? -/
def fitTo (to : ByteArray) (new may : Bool) : Bool := if to.data.toList.isEmpty then !new else may && nme to.data.toList
theorem fitTo_no (to : ByteArray) (new may : Bool) (h : to.data.toList.isEmpty = true) : fitTo to new may = !new := by unfold fitTo; rw [h]; rfl
theorem fitTo_yes (to : ByteArray) (new may : Bool) (h : to.data.toList.isEmpty = false) : fitTo to new may = (may && nme to.data.toList) := by unfold fitTo; rw [h]; rfl

set_option maxHeartbeats 800000 in
theorem fitTo_any (k : Int) (nm to : ByteArray) (new : Bool) (ea : Option Addr) (el ecap : Nat) (ba : Option Addr) (bl bcap : Nat) (la : Option Addr) (ll lcap : Nat) (pos : Int) (may : Bool) (w : World) (hto : to.size ≤ maxLen) (hsg : SignsIn w) :
    Calls Tryd.prog 67 #[.agg #[.int .u8 k, .string nm, .string to, .bool new, .slice ea el ecap, .slice ba bl bcap, .slice la ll lcap, .int .i64 pos], .bool may] w fun e w' =>
      e = .returned (.bool (fitTo to new may)) ∧ Below w.heap.size w w' := by
  have hg := hsg.lt
  cases he : to.data.toList.isEmpty
  · have h1 : to.toList.isEmpty = false := by rw [Lib.toList_data]; exact he
    have h2 : (to.toList == []) = false := by rw [Bool.eq_false_iff]; intro e; rw [beq_iff_eq] at e; rw [e] at h1; cases h1
    have HF := Lib.hid (fitTo_yes to new may he)
    clear he
    cases may
    · go_enter Tryd.func67, Tryd.ntmps67
      go_wp2_with fail
      go_ret
      exact ⟨ret_bool HF.out.symm, (Below.refl _ _).alloc (Nat.le_refl _) _⟩
    · go_enter Tryd.func67, Tryd.ntmps67
      go_wp2_with fail
      refine (tname_any to _ hto (hsg.below hg ((Below.refl _ _).alloc (Nat.le_refl _) _))).mono ?_
      rintro e w' ⟨rfl, hb⟩
      go_wp2_with fail
      go_ret
      exact ⟨ret_bool HF.out.symm, ((Below.refl _ _).alloc (Nat.le_refl _) _).trans (hb.mono (by simp))⟩
  · have h1 : to.toList.isEmpty = true := by rw [Lib.toList_data]; exact he
    have h3 : to.toList = [] := by simpa using h1
    have HF := Lib.hid (fitTo_no to new may he)
    clear he
    go_enter Tryd.func67, Tryd.ntmps67
    go_wp2_with fail
    go_ret
    exact ⟨ret_bool HF.out.symm, (Below.refl _ _).alloc (Nat.le_refl _) _⟩

def fitS : St → Bool
  | .mk k nm to new _ _ e _ _ body _ _ els _ => decide (1 ≤ k) && decide (k ≤ 9) && (fitNm nm (stName k) && fitTo to new (stTo k) && decide (stLeast k ≤ (e.length : Int)) && decide ((e.length : Int) ≤ stMost k) && (stBody k || decide (body.length = 0)) && (stOther k || decide (els.length = 0)))
theorem fitS_eq (k : Int) (nm to : ByteArray) (new : Bool) (ea : Option Addr) (ecap : Nat) (e : List Ex) (ba : Option Addr) (bcap : Nat) (body : List St) (la : Option Addr) (lcap : Nat) (els : List St) (pos : Int) :
    fitS (.mk k nm to new ea ecap e ba bcap body la lcap els pos) = (decide (1 ≤ k) && decide (k ≤ 9) && (fitNm nm (stName k) && fitTo to new (stTo k) && decide (stLeast k ≤ (e.length : Int)) && decide ((e.length : Int) ≤ stMost k) && (stBody k || decide (body.length = 0)) && (stOther k || decide (els.length = 0)))) := rfl

set_option maxHeartbeats 1600000 in
theorem fitS_any (k : Int) (nm to : ByteArray) (new : Bool) (ea : Option Addr) (ecap : Nat) (e : List Ex) (ba : Option Addr) (bcap : Nat) (body : List St) (la : Option Addr) (lcap : Nat) (els : List St) (pos : Int) (w : World)
    (hk : U8 k) (hs : nm.size ≤ maxLen) (hto : to.size ≤ maxLen) (hsg : SignsIn w) (ht : StTab w) :
    Calls Tryd.prog 49 #[.agg #[.int .u8 k, .string nm, .string to, .bool new, .slice ea e.length ecap, .slice ba body.length bcap, .slice la els.length lcap, .int .i64 pos]] w fun e' w' =>
      e' = .returned (.bool (fitS (.mk k nm to new ea ecap e ba bcap body la lcap els pos))) ∧ Below w.heap.size w w' := by
  unfold U8 at hk
  by_cases h1 : k < 1
  · go_enter Tryd.func49, Tryd.ntmps49
    go_wp2_with fail
    go_ret
    exact ⟨ret_bool (by rw [fitS_eq, decide_eq_false (by omega : ¬ 1 ≤ k)]; rfl), (Below.refl _ _).alloc (Nat.le_refl _) _⟩
  · by_cases h9 : 9 < k
    · go_enter Tryd.func49, Tryd.ntmps49
      go_wp2_with fail
      go_ret
      exact ⟨ret_bool (by rw [fitS_eq, decide_eq_false (by omega : ¬ k ≤ 9), Bool.and_false]; rfl), (Below.refl _ _).alloc (Nat.le_refl _) _⟩
    · obtain ⟨c0, c1, c2, c3, c4, c5⟩ := stTab_at ht k (by omega) (by omega)
      have hz2 : 1 < w.heap.size := World.block_lt_of_cell? _ _ c0
      replace c0 := fun o => (World.cell?_alloc_lt w o ⟨1, k.toNat * 6, none⟩ hz2).trans c0
      replace c1 := fun o => (World.cell?_alloc_lt w o ⟨1, k.toNat * 6 + 1, none⟩ hz2).trans c1
      replace c2 := fun o => (World.cell?_alloc_lt w o ⟨1, k.toNat * 6 + 2, none⟩ hz2).trans c2
      replace c3 := fun o => (World.cell?_alloc_lt w o ⟨1, k.toNat * 6 + 3, none⟩ hz2).trans c3
      replace c4 := fun o => (World.cell?_alloc_lt w o ⟨1, k.toNat * 6 + 4, none⟩ hz2).trans c4
      replace c5 := fun o => (World.cell?_alloc_lt w o ⟨1, k.toNat * 6 + 5, none⟩ hz2).trans c5
      have hcall := fun W h => fitNm_any nm (stName k) W hs h
      have hcall2 := fun W h => fitTo_any k nm to new ea e.length ecap ba body.length bcap la els.length lcap pos (stTo k) W hto h
      have HD := Lib.hid (fitS_eq k nm to new ea ecap e ba bcap body la lcap els pos)
      rw [decide_eq_true (by omega : 1 ≤ k), decide_eq_true (by omega : k ≤ 9)] at HD
      have hg : 3 < w.heap.size := hsg.lt
      generalize stName k = xn at *
      generalize stLeast k = xl at *
      generalize stMost k = xm at *
      generalize stBody k = xb at *
      generalize stOther k = xo at *
      generalize stTo k = xt at *
      generalize fitNm nm xn = f1 at *
      generalize fitTo to new xt = f2 at *
      replace hcall := Lib.hid hcall
      replace hcall2 := Lib.hid hcall2
      have hfin : ∀ b, b = (true && true && (f1 && f2 && decide (xl ≤ (e.length : Int)) && decide ((e.length : Int) ≤ xm) && (xb || decide (body.length = 0)) && (xo || decide (els.length = 0)))) → Ending.returned (.bool b) = .returned (.bool (fitS (.mk k nm to new ea ecap e ba bcap body la lcap els pos))) := fun b hb => ret_bool (hb.trans HD.out.symm)
      replace hfin := Lib.hid hfin
      cases f1
      · go_enter Tryd.func49, Tryd.ntmps49
        go_wp2_with fail
        refine (hcall.out _ ((hsg.below hg (((Below.refl _ _).alloc (Nat.le_refl _) _).alloc (by simp) _)))).mono ?_
        rintro e w' ⟨rfl, hb⟩
        obtain ⟨hc, hf⟩ := bcell hb
        go_wp2_with fail
        go_ret
        exact ⟨hfin.out _ rfl, (((Below.refl _ _).alloc (Nat.le_refl _) _).alloc (by simp) _).trans (hb.mono (by simp; omega))⟩
      · cases f2
        · go_enter Tryd.func49, Tryd.ntmps49
          go_wp2_with fail
          refine (hcall.out _ ((hsg.below hg (((Below.refl _ _).alloc (Nat.le_refl _) _).alloc (by simp) _)))).mono ?_
          rintro e w' ⟨rfl, hb⟩
          obtain ⟨hc, hf⟩ := bcell hb
          go_wp2_with fail
          refine (hcall2.out _ ?_).mono ?_
          · exact (hsg.below hg (((Below.refl _ _).alloc (Nat.le_refl _) _).alloc (by simp) _)).below (by simp; omega) hb
          rintro e w'' ⟨rfl, hb'⟩
          obtain ⟨hc', hf'⟩ := bcell hb'
          have hz := hb.size
          go_wp2_with fail
          go_ret
          exact ⟨hfin.out _ rfl, ((((Below.refl _ _).alloc (Nat.le_refl _) _).alloc (by simp) _).trans (hb.mono (by simp; omega))).trans (hb'.mono (by simp at hz; omega))⟩
        · go_enter Tryd.func49, Tryd.ntmps49
          go_wp2_with fail
          refine (hcall.out _ ((hsg.below hg (((Below.refl _ _).alloc (Nat.le_refl _) _).alloc (by simp) _)))).mono ?_
          rintro e w' ⟨rfl, hb⟩
          obtain ⟨hc, hf⟩ := bcell hb
          go_wp2_with fail
          refine (hcall2.out _ ?_).mono ?_
          · exact (hsg.below hg (((Below.refl _ _).alloc (Nat.le_refl _) _).alloc (by simp) _)).below (by simp; omega) hb
          rintro e w'' ⟨rfl, hb'⟩
          obtain ⟨hc', hf'⟩ := bcell hb'
          have hz := hb.size
          have hlw : ∀ b o, b < w.heap.size + 2 → w''.cell? ⟨b, o, none⟩ = w'.cell? ⟨b, o, none⟩ := fun b o h => hc' b o (by simp at hz; omega)
          go_wp2_with fail
          all_goals
            go_ret
            refine ⟨hfin.out _ ?_, ((((Below.refl _ _).alloc (Nat.le_refl _) _).alloc (by simp) _).trans (hb.mono (by simp; omega))).trans (hb'.mono (by simp at hz; omega))⟩
            clear hc hf hc' hf' hlw c0 c1 c2 c3 c4 c5
            rw [Bool.eq_iff_iff]
            first
              | (simp [*]; done)
              | (simp [*]; intros; exfalso; omega)

/-- a statement's cells -/
theorem StAt.cells {w : World} {S : Nat → Prop} {b o : Nat} {k : Int} {nm to : ByteArray} {new : Bool} {ea : Option Addr} {ecap : Nat} {e : List Ex} {ba : Option Addr} {bcap : Nat} {body : List St} {la : Option Addr} {lcap : Nat} {els : List St} {pos : Int}
    (h : StAt w S b o (.mk k nm to new ea ecap e ba bcap body la lcap els pos)) :
    w.cell? ⟨b, o, none⟩ = some (.int .u8 k) ∧ w.cell? ⟨b, o + 1, none⟩ = some (.string nm) ∧ w.cell? ⟨b, o + 2, none⟩ = some (.string to) ∧ w.cell? ⟨b, o + 3, none⟩ = some (.bool new) ∧ w.cell? ⟨b, o + 4, none⟩ = some (.slice ea e.length ecap) ∧
    w.cell? ⟨b, o + 5, none⟩ = some (.slice ba body.length bcap) ∧ w.cell? ⟨b, o + 6, none⟩ = some (.slice la els.length lcap) ∧ w.cell? ⟨b, o + 7, none⟩ = some (.int .i64 pos) :=
  ⟨h.2 0 _ rfl, h.2 1 _ rfl, h.2 2 _ rfl, h.2 3 _ rfl, h.2 4 _ rfl, h.2 5 _ rfl, h.2 6 _ rfl, h.2 7 _ rfl⟩

set_option maxHeartbeats 800000 in
theorem fits_st (e : St) (b o : Nat) (S : Nat → Prop) (d : Int) (w : World) (hat : StAt w S b o e) (hin : St.In w S e) (hsg : SignsIn w) (ht : StTab w) :
    Calls Tryd.prog 30 #[.agg #[.pointer (some ⟨b, o, none⟩), .pointer none, .int .i64 d]] w fun e' w' => e' = .returned (.bool (fitS e)) ∧ Below w.heap.size w w' := by
  obtain ⟨k, nm, to, new, ea, ecap, e, ba, bcap, body, la, lcap, els, pos⟩ := e
  obtain ⟨c0, c1, c2, c3, c4, c5, c6, c7⟩ := hat.cells
  unfold St.In at hin
  have hbl : b < w.heap.size := World.block_lt_of_cell? _ _ c0
  have hg := hsg.lt
  have hcall := fun W hsg ht => fitS_any k nm to new ea ecap e ba bcap body la lcap els pos W hin.1 hin.2.1 hin.2.2.1 hsg ht
  replace hcall := Lib.hid hcall
  generalize fitS (.mk k nm to new ea ecap e ba bcap body la lcap els pos) = fe at *
  clear hat hin
  go_enter Tryd.func30, Tryd.ntmps30
  go_wp2_with fail
  refine (hcall.out _ (hsg.below hg ((Below.refl _ _).alloc (Nat.le_refl _) _)) (ht.below ((Below.refl _ _).alloc (Nat.le_refl _) _))).mono ?_
  rintro e w' ⟨rfl, hb⟩
  go_wp2_with fail
  go_ret
  exact ⟨rfl, ((Below.refl _ _).alloc (Nat.le_refl _) _).trans (hb.mono (by simp))⟩
end Go.Proofs.YtolmhcdcfnoicaaDoor.Tr
