/- Walks of what Kinds of statements ask: set. Conditions: the looker lies in memory. -/
import Derived.Test.YtpcdlneompnhlaaGreatDoorTyG
namespace Go.Proofs.YtpcdlneompnhlaaGreatDoor.Ty
open Go Go.RowKit
open Go.Proofs.YtpcdlneompnhlaaGreatDoor.Lx Go.Proofs.YtpcdlneompnhlaaGreatDoor.Tr

/-- a region's end by a fault, all below B as it was -/
def BadB (p : Int × Int) (B : Nat) (w6 : World) (e : Exit) (a : Act) (w : World) : Prop := e = .panic [{ v := .iface 114 (.agg #[.int .i64 p.1, .int .i64 p.2]), recovered := false }] ∧ a.defers = [] ∧ Below B w6 w
theorem BadB.put {p : Int × Int} {B : Nat} {w6 : World} {d : Option Tmp} {v : Value} : ∀ c a w, BadB p B w6 (.panic c) (a.put d v) w → BadB p B w6 (.panic c) a w := fun _ _ _ h => ⟨h.1, by cases d <;> exact h.2.1, h.2.2⟩

/-- what a Set asks -/
def setK (ds : List De) (D : List (ByteArray × Nat)) (p : PS) (nm : ByteArray) (e : List Ex) (pos : Int) : Except (Int × Int) PS :=
  match varK ds D p.kn nm pos with
  | .error q => .error q
  | .ok t => match wantK ds D p.kn t e with
    | .error q => .error q
    | .ok _ => .ok p

set_option maxHeartbeats 2000000 in
set_option maxRecDepth 100000 in
theorem set_c {c : Lc} {s : Ls} {w : World} (k : Int) (nm to : ByteArray) (new : Bool) (ea : Option Addr) (ec : Nat) (e : List Ex) (ba : Option Addr) (bc : Nat) (body : List St) (la : Option Addr) (lc : Nat) (els : List St) (pos : Int) (hok : okEL e) (hin : St.In w (fun b => b < c.B) (.mk k nm to new ea ec e ba bc body la lc els pos)) (h : Lk c s w) :
    Calls Tryz.prog 127 #[.pointer (some ⟨c.lb, 0, none⟩), .agg #[.int .u8 k, .string nm, .string to, .bool new, .slice ea e.length ec, .slice ba body.length bc, .slice la els.length lc, .int .i64 pos]] w (PostS c s w (setK c.ds c.D s.ps nm e pos)) := by
  have hb1 := box_lt w (.cells #[.int .u8 k, .string nm, .string to, .bool new, .slice ea e.length ec, .slice ba body.length bc, .slice la els.length lc, .int .i64 pos] 60)
  have hbx : (w.alloc (.cells #[.int .u8 k, .string nm, .string to, .bool new, .slice ea e.length ec, .slice ba body.length bc, .slice la els.length lc, .int .i64 pos] 60)).heap[w.heap.size]? = some (.cells #[.int .u8 k, .string nm, .string to, .bool new, .slice ea e.length ec, .slice ba body.length bc, .slice la els.length lc, .int .i64 pos] 60 (0, 0)) := World.alloc_heap_new w _
  have hnew := h.new_not
  have hlow := h.low
  have h1 := h.ext hb1
  have hs1 := StepS.of_ext h hb1
  unfold St.In at hin
  obtain ⟨_, hn, hto, hpos, herow, hein, hbrow, hbin, hlrow, hlin⟩ := hin
  have hw := fun t V hV => want_c (h1.ext (w' := V) hV) ea ec e t hok (herow.below (Kps.of_below (hb1.trans (hV.mono hb1.size)))) (Ex.InL.below (Kps.of_below (hb1.trans (hV.mono hb1.size))) _ hein)
  have hf := fun V hV => variable_c (h1.ext (w' := V) hV) nm hn pos
  generalize hr : setK c.ds c.D s.ps nm e pos = r
  unfold setK at hr
  rw [show s.ps.kn = s.kn from rfl] at hr
  generalize varK c.ds c.D s.kn nm pos = q2 at hf hr
  replace hr := Lib.hid hr
  replace hw := Lib.hid hw
  replace hs1 := Lib.hid hs1
  replace hlow := Lib.hid hlow
  replace hf := Lib.hid hf
  replace hbx := Lib.hid hbx
  clear hnew h1 h hn hto hpos herow hein hbrow hbin hlrow hlin hok hb1
  go_enter Tryz.func127, Tryz.ntmps127
  go_wp2_with fail
  obtain ⟨W, hW⟩ : ∃ W, w.alloc (.cells #[.int .u8 k, .string nm, .string to, .bool new, .slice ea e.length ec, .slice ba body.length bc, .slice la els.length lc, .int .i64 pos] 60) = W := ⟨_, rfl⟩
  rw [hW] at hw hf hbx hs1 ⊢
  clear hW
  have hSF : Hid (∀ V, Below W.heap.size W V → (fun X : World => X.cell? ⟨w.heap.size, 1, none⟩ = some (.string nm) ∧ X.cell? ⟨w.heap.size, 4, none⟩ = some (.slice ea e.length ec) ∧ X.cell? ⟨w.heap.size, 7, none⟩ = some (.int .i64 pos)) V) := Lib.hid fun V hV => by
    have := (hV.block _ (cells_lt hbx.out)).trans hbx.out
    exact ⟨blk_cell this rfl, blk_cell this rfl, blk_cell this rfl⟩
  have hBd : Below W.heap.size W W.drew := (Below.refl _ _).drew
  have hS := hSF.out _ hBd
  have hfd := Lib.hid (hf.out _ hBd)
  have hBc := Lib.hid (fun V (hV : Below W.heap.size W V) => hs1.out.below.trans (hV.mono (Nat.le_trans hlow.out hs1.out.below.size)))
  clear hf hbx
  cases q2 with
  | error p =>
    have hr2 := hr.out
    simp only at hr2
    subst hr2
    refine Code.wp_mono (Q := BadR p W) ?_ ?_
    · rintro e a w7 ⟨rfl, hd, hE7⟩
      exact ⟨hd, rfl, hBc.out _ hE7⟩
    refine wp_region_held_drew (S := (fun X : World => X.cell? ⟨w.heap.size, 1, none⟩ = some (.string nm) ∧ X.cell? ⟨w.heap.size, 4, none⟩ = some (.slice ea e.length ec) ∧ X.cell? ⟨w.heap.size, 7, none⟩ = some (.int .i64 pos))) (by kernel_rfl) hS (fun hHeld => ?_)
    refine' wpAnyH_take (i := 0) (oi := _) (v := _) rfl (by kernel_rfl) (by kernel_rfl) (by kernel_rfl) BadR.put (Or.inl ⟨by rfl, ?hya0⟩) (by assumption) ?resta0
    case hya0 => (intro w hSw; go_simp; all_goals (with_reducible rfl))
    try simp only [Act.put, List.getElem_toArray, List.getElem_cons_zero, List.setIfInBounds_toArray, List.set_cons_zero, List.set_cons_succ]
    refine' wpAnyH_take (i := 1) (oi := _) (v := _) rfl (by kernel_rfl) (by kernel_rfl) (by kernel_rfl) BadR.put (Or.inl ⟨by rfl, ?hya1⟩) (by assumption) ?resta1
    case hya1 => (intro w hSw; go_simp; all_goals (with_reducible rfl))
    try simp only [Act.put, List.getElem_toArray, List.getElem_cons_zero, List.getElem_cons_succ, List.setIfInBounds_toArray, List.set_cons_zero, List.set_cons_succ]
    refine' wpAnyH_take (i := 2) (oi := _) (v := _) rfl (by kernel_rfl) (by kernel_rfl) (by kernel_rfl) BadR.put (Or.inl ⟨by rfl, ?hya2⟩) (by assumption) ?resta2
    case hya2 => (intro w hSw; go_simp; all_goals (with_reducible rfl))
    try simp only [Act.put, List.getElem_toArray, List.getElem_cons_zero, List.getElem_cons_succ, List.setIfInBounds_toArray, List.set_cons_zero, List.set_cons_succ]
    refine' wpAnyH_take (i := 3) (oi := _) (v := _) rfl (by kernel_rfl) (by kernel_rfl) (by kernel_rfl) BadR.put (Or.inl ⟨by rfl, ?hya3⟩) (by assumption) ?resta3
    case hya3 => (intro w hSw; go_simp; all_goals (with_reducible rfl))
    try simp only [Act.put, List.getElem_toArray, List.getElem_cons_zero, List.getElem_cons_succ, List.setIfInBounds_toArray, List.set_cons_zero, List.set_cons_succ]
    refine' wpAnyH_take (i := 4) (oi := _) (v := _) rfl (by kernel_rfl) (by kernel_rfl) (by kernel_rfl) BadR.put (Or.inl ⟨by rfl, ?hya4⟩) (by assumption) ?resta4
    case hya4 => (intro w hSw; go_simp; all_goals (with_reducible rfl))
    try simp only [Act.put, List.getElem_toArray, List.getElem_cons_zero, List.getElem_cons_succ, List.setIfInBounds_toArray, List.set_cons_zero, List.set_cons_succ]
    refine' wpAnyH_take (i := 5) (oi := _) (v := _) rfl (by kernel_rfl) (by kernel_rfl) (by kernel_rfl) BadR.put (Or.inl ⟨by rfl, ?hya5⟩) (by assumption) ?resta5
    case hya5 => (intro w hSw; go_simp; all_goals (with_reducible rfl))
    try simp only [Act.put, List.getElem_toArray, List.getElem_cons_zero, List.getElem_cons_succ, List.setIfInBounds_toArray, List.set_cons_zero, List.set_cons_succ]
    refine' wpAnyH_take (i := 7) (oi := _) (v := _) rfl (by kernel_rfl) (by kernel_rfl) (by kernel_rfl) BadR.put (Or.inl ⟨by rfl, ?hya7⟩) (by assumption) ?resta7
    case hya7 => (intro w hSw; go_simp; all_goals (with_reducible rfl))
    try simp only [Act.put, List.getElem_toArray, List.getElem_cons_zero, List.getElem_cons_succ, List.setIfInBounds_toArray, List.set_cons_zero, List.set_cons_succ]
    refine' wpAnyH_take (i := 8) (oi := _) (v := _) rfl (by kernel_rfl) (by kernel_rfl) (by kernel_rfl) BadR.put (Or.inl ⟨by rfl, ?hya8⟩) (by assumption) ?resta8
    case hya8 => (intro w hSw; go_simp; all_goals (with_reducible rfl))
    try simp only [Act.put, List.getElem_toArray, List.getElem_cons_zero, List.getElem_cons_succ, List.setIfInBounds_toArray, List.set_cons_zero, List.set_cons_succ]
    refine wpAnyH_ready (rs := [6]) (by kernel_rfl) (by simp) ?_
    refine AllReadyH.cons (o := _) rfl (fun K hK => ?_) AllReadyH.nil
    replace hK := Lib.hid hK
    go_simp
    refine hfd.out.mono ?_
    rintro e w7 ⟨rfl, rfl⟩
    exact ⟨rfl, rfl, hBd⟩
  | ok t =>
    have hwd := Lib.hid (hw.out t W.drew hBd)
    clear hw
    have hr2 := hr.out
    simp only at hr2
    clear hr
    generalize wantK c.ds c.D s.kn t e = q at hwd hr2
    cases q with
    | error p =>
      simp only at hr2
      subst hr2
      refine Code.wp_mono (Q := BadR p W) ?_ ?_
      · rintro e a w7 ⟨rfl, hd, hE7⟩
        exact ⟨hd, rfl, hBc.out _ hE7⟩
      refine wp_region_held_drew (S := (fun X : World => X.cell? ⟨w.heap.size, 1, none⟩ = some (.string nm) ∧ X.cell? ⟨w.heap.size, 4, none⟩ = some (.slice ea e.length ec) ∧ X.cell? ⟨w.heap.size, 7, none⟩ = some (.int .i64 pos))) (by kernel_rfl) hS (fun hHeld => ?_)
      refine' wpAnyH_take (i := 0) (oi := _) (v := _) rfl (by kernel_rfl) (by kernel_rfl) (by kernel_rfl) BadR.put (Or.inl ⟨by rfl, ?hyb0⟩) (by assumption) ?restb0
      case hyb0 => (intro w hSw; go_simp; all_goals (with_reducible rfl))
      try simp only [Act.put, List.getElem_toArray, List.getElem_cons_zero, List.setIfInBounds_toArray, List.set_cons_zero, List.set_cons_succ]
      refine' wpAnyH_take (i := 1) (oi := _) (v := _) rfl (by kernel_rfl) (by kernel_rfl) (by kernel_rfl) BadR.put (Or.inl ⟨by rfl, ?hyb1⟩) (by assumption) ?restb1
      case hyb1 => (intro w hSw; go_simp; all_goals (with_reducible rfl))
      try simp only [Act.put, List.getElem_toArray, List.getElem_cons_zero, List.getElem_cons_succ, List.setIfInBounds_toArray, List.set_cons_zero, List.set_cons_succ]
      refine' wpAnyH_take (i := 2) (oi := _) (v := _) rfl (by kernel_rfl) (by kernel_rfl) (by kernel_rfl) BadR.put (Or.inl ⟨by rfl, ?hyb2⟩) (by assumption) ?restb2
      case hyb2 => (intro w hSw; go_simp; all_goals (with_reducible rfl))
      try simp only [Act.put, List.getElem_toArray, List.getElem_cons_zero, List.getElem_cons_succ, List.setIfInBounds_toArray, List.set_cons_zero, List.set_cons_succ]
      refine' wpAnyH_take (i := 3) (oi := _) (v := _) rfl (by kernel_rfl) (by kernel_rfl) (by kernel_rfl) BadR.put (Or.inl ⟨by rfl, ?hyb3⟩) (by assumption) ?restb3
      case hyb3 => (intro w hSw; go_simp; all_goals (with_reducible rfl))
      try simp only [Act.put, List.getElem_toArray, List.getElem_cons_zero, List.getElem_cons_succ, List.setIfInBounds_toArray, List.set_cons_zero, List.set_cons_succ]
      refine' wpAnyH_take (i := 4) (oi := _) (v := _) rfl (by kernel_rfl) (by kernel_rfl) (by kernel_rfl) BadR.put (Or.inl ⟨by rfl, ?hyb4⟩) (by assumption) ?restb4
      case hyb4 => (intro w hSw; go_simp; all_goals (with_reducible rfl))
      try simp only [Act.put, List.getElem_toArray, List.getElem_cons_zero, List.getElem_cons_succ, List.setIfInBounds_toArray, List.set_cons_zero, List.set_cons_succ]
      refine' wpAnyH_take (i := 5) (oi := _) (v := _) rfl (by kernel_rfl) (by kernel_rfl) (by kernel_rfl) BadR.put (Or.inl ⟨by rfl, ?hyb5⟩) (by assumption) ?restb5
      case hyb5 => (intro w hSw; go_simp; all_goals (with_reducible rfl))
      try simp only [Act.put, List.getElem_toArray, List.getElem_cons_zero, List.getElem_cons_succ, List.setIfInBounds_toArray, List.set_cons_zero, List.set_cons_succ]
      refine' wpAnyH_take (i := 7) (oi := _) (v := _) rfl (by kernel_rfl) (by kernel_rfl) (by kernel_rfl) BadR.put (Or.inl ⟨by rfl, ?hyb7⟩) (by assumption) ?restb7
      case hyb7 => (intro w hSw; go_simp; all_goals (with_reducible rfl))
      try simp only [Act.put, List.getElem_toArray, List.getElem_cons_zero, List.getElem_cons_succ, List.setIfInBounds_toArray, List.set_cons_zero, List.set_cons_succ]
      refine' wpAnyH_take (i := 8) (oi := _) (v := _) rfl (by kernel_rfl) (by kernel_rfl) (by kernel_rfl) BadR.put (Or.inl ⟨by rfl, ?hyb8⟩) (by assumption) ?restb8
      case hyb8 => (intro w hSw; go_simp; all_goals (with_reducible rfl))
      try simp only [Act.put, List.getElem_toArray, List.getElem_cons_zero, List.getElem_cons_succ, List.setIfInBounds_toArray, List.set_cons_zero, List.set_cons_succ]
      refine wpAnyH_ready (rs := [6]) (by kernel_rfl) (by simp) ?_
      refine AllReadyH.cons (o := _) rfl (fun K hK => ?_) AllReadyH.nil
      replace hK := Lib.hid hK
      go_simp
      refine hfd.out.mono ?_
      rintro e w7 ⟨rfl, rfl⟩
      refine hK.out _ _ hS (fun hHeld => ?_)
      clear hK K
      try simp only [Act.put, List.setIfInBounds_toArray, List.set_cons_zero, List.set_cons_succ]
      refine wpAnyH_ready (rs := [9]) (by kernel_rfl) (by simp) ?_
      refine AllReadyH.cons (o := _) rfl (fun K hK => ?_) AllReadyH.nil
      replace hK := Lib.hid hK
      go_simp
      refine hwd.out.mono ?_
      rintro e w8 ⟨hb8, rfl⟩
      exact ⟨rfl, rfl, hBd.trans hb8⟩
    | ok _ =>
      simp only at hr2
      subst hr2
      refine wp_region_noPanic ?_
      refine wp_region_held_drew (S := (fun X : World => X.cell? ⟨w.heap.size, 1, none⟩ = some (.string nm) ∧ X.cell? ⟨w.heap.size, 4, none⟩ = some (.slice ea e.length ec) ∧ X.cell? ⟨w.heap.size, 7, none⟩ = some (.int .i64 pos))) (by kernel_rfl) hS (fun hHeld => ?_)
      refine' wpAnyH_take (i := 0) (oi := _) (v := _) rfl (by kernel_rfl) (by kernel_rfl) (by kernel_rfl) (fun _ _ _ h => h) (Or.inl ⟨by rfl, ?hyc0⟩) (by assumption) ?restc0
      case hyc0 => (intro w hSw; go_simp; all_goals (with_reducible rfl))
      try simp only [Act.put, List.getElem_toArray, List.getElem_cons_zero, List.setIfInBounds_toArray, List.set_cons_zero, List.set_cons_succ]
      refine' wpAnyH_take (i := 1) (oi := _) (v := _) rfl (by kernel_rfl) (by kernel_rfl) (by kernel_rfl) (fun _ _ _ h => h) (Or.inl ⟨by rfl, ?hyc1⟩) (by assumption) ?restc1
      case hyc1 => (intro w hSw; go_simp; all_goals (with_reducible rfl))
      try simp only [Act.put, List.getElem_toArray, List.getElem_cons_zero, List.getElem_cons_succ, List.setIfInBounds_toArray, List.set_cons_zero, List.set_cons_succ]
      refine' wpAnyH_take (i := 2) (oi := _) (v := _) rfl (by kernel_rfl) (by kernel_rfl) (by kernel_rfl) (fun _ _ _ h => h) (Or.inl ⟨by rfl, ?hyc2⟩) (by assumption) ?restc2
      case hyc2 => (intro w hSw; go_simp; all_goals (with_reducible rfl))
      try simp only [Act.put, List.getElem_toArray, List.getElem_cons_zero, List.getElem_cons_succ, List.setIfInBounds_toArray, List.set_cons_zero, List.set_cons_succ]
      refine' wpAnyH_take (i := 3) (oi := _) (v := _) rfl (by kernel_rfl) (by kernel_rfl) (by kernel_rfl) (fun _ _ _ h => h) (Or.inl ⟨by rfl, ?hyc3⟩) (by assumption) ?restc3
      case hyc3 => (intro w hSw; go_simp; all_goals (with_reducible rfl))
      try simp only [Act.put, List.getElem_toArray, List.getElem_cons_zero, List.getElem_cons_succ, List.setIfInBounds_toArray, List.set_cons_zero, List.set_cons_succ]
      refine' wpAnyH_take (i := 4) (oi := _) (v := _) rfl (by kernel_rfl) (by kernel_rfl) (by kernel_rfl) (fun _ _ _ h => h) (Or.inl ⟨by rfl, ?hyc4⟩) (by assumption) ?restc4
      case hyc4 => (intro w hSw; go_simp; all_goals (with_reducible rfl))
      try simp only [Act.put, List.getElem_toArray, List.getElem_cons_zero, List.getElem_cons_succ, List.setIfInBounds_toArray, List.set_cons_zero, List.set_cons_succ]
      refine' wpAnyH_take (i := 5) (oi := _) (v := _) rfl (by kernel_rfl) (by kernel_rfl) (by kernel_rfl) (fun _ _ _ h => h) (Or.inl ⟨by rfl, ?hyc5⟩) (by assumption) ?restc5
      case hyc5 => (intro w hSw; go_simp; all_goals (with_reducible rfl))
      try simp only [Act.put, List.getElem_toArray, List.getElem_cons_zero, List.getElem_cons_succ, List.setIfInBounds_toArray, List.set_cons_zero, List.set_cons_succ]
      refine' wpAnyH_take (i := 7) (oi := _) (v := _) rfl (by kernel_rfl) (by kernel_rfl) (by kernel_rfl) (fun _ _ _ h => h) (Or.inl ⟨by rfl, ?hyc7⟩) (by assumption) ?restc7
      case hyc7 => (intro w hSw; go_simp; all_goals (with_reducible rfl))
      try simp only [Act.put, List.getElem_toArray, List.getElem_cons_zero, List.getElem_cons_succ, List.setIfInBounds_toArray, List.set_cons_zero, List.set_cons_succ]
      refine' wpAnyH_take (i := 8) (oi := _) (v := _) rfl (by kernel_rfl) (by kernel_rfl) (by kernel_rfl) (fun _ _ _ h => h) (Or.inl ⟨by rfl, ?hyc8⟩) (by assumption) ?restc8
      case hyc8 => (intro w hSw; go_simp; all_goals (with_reducible rfl))
      try simp only [Act.put, List.getElem_toArray, List.getElem_cons_zero, List.getElem_cons_succ, List.setIfInBounds_toArray, List.set_cons_zero, List.set_cons_succ]
      refine wpAnyH_ready (rs := [6]) (by kernel_rfl) (by simp) ?_
      refine AllReadyH.cons (o := _) rfl (fun K hK => ?_) AllReadyH.nil
      replace hK := Lib.hid hK
      go_simp
      refine hfd.out.mono ?_
      rintro e w7 ⟨rfl, rfl⟩
      refine hK.out _ _ hS (fun hHeld => ?_)
      clear hK K
      try simp only [Act.put, List.setIfInBounds_toArray, List.set_cons_zero, List.set_cons_succ]
      refine wpAnyH_ready (rs := [9]) (by kernel_rfl) (by simp) ?_
      refine AllReadyH.cons (o := _) rfl (fun K hK => ?_) AllReadyH.nil
      replace hK := Lib.hid hK
      go_simp
      refine hwd.out.mono ?_
      rintro e w8 ⟨hb8, rfl⟩
      have hB8 := hBd.trans hb8
      refine hK.out _ _ (hSF.out _ hB8) (fun hHeld => ?_)
      clear hK K
      try simp only [Act.put, List.setIfInBounds_toArray, List.set_cons_zero, List.set_cons_succ]
      refine wpAnyH_done (by kernel_rfl) ?_ _
      refine NoPanic.normal ?_
      have hfin := Lib.hid (hs1.out.ext hB8)
      clear hS hSF hHeld hb8 hB8 hBd hfd hwd hs1 hBc
      go_wp2_with fail
      exact ⟨rfl, .tuple #[], by simp [results, Tryz.results127, go_sem], rfl, s, hfin.out, rfl⟩
end Go.Proofs.YtpcdlneompnhlaaGreatDoor.Ty
