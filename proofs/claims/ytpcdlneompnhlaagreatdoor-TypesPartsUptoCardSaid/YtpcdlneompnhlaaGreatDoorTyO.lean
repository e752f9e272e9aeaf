/- Walk of call. Conditions: the looker lies in memory. -/
import Derived.Test.YtpcdlneompnhlaaGreatDoorTyO1
namespace Go.Proofs.YtpcdlneompnhlaaGreatDoor.Ty
open Go Go.RowKit
open Go.Proofs.YtpcdlneompnhlaaGreatDoor.Lx Go.Proofs.YtpcdlneompnhlaaGreatDoor.Tr

/-- what stands behind a call's callee -/
def tailK (ds : List De) (D : List (ByteArray × Nat)) (p q : PS) (to : ByteArray) (new : Bool) (e : List Ex) (at_ : Int) : Except (Int × Int) PS :=
  match wantK ds D p.kn 1 e with
  | .error x => .error x
  | .ok _ =>
    if new = true then declK D q to 1 at_
    else if to = ⟨#[]⟩ then .ok q
    else match answerK D p.kn to at_ with
      | .error x => .error x
      | .ok _ => .ok q
theorem callK_eq (ds : List De) (D : List (ByteArray × Nat)) (pos : Nat) (p : PS) (nm to : ByteArray) (new : Bool) (e : List Ex) (at_ : Int) : callK ds D pos p nm to new e at_ = match findK ds D p.kn nm 4 at_ with
    | .error q => .error q
    | .ok i => match ds[i]? with
      | none => .error (at_, 65)
      | some d => if d.params.length ≠ e.length then .error (at_, 65) else tailK ds D p { p with calls := addCall p.calls pos i } to new e at_ := rfl
theorem step_run {P : Program} {ops : Array Oper} {o : Oper} {a : Act} {w : World} {K : Act → World → Prop} {Q : Exit → Act → World → Prop} {E : Prop} (hgd : o.guard = none) (s x : Operand) (t : TypeId) (ho : o.op = .call { callee := .builtin .append, args := #[s, x], argTypes := #[t, t] }) (v u v' : Value) (w' : World)
    (hs : a.eval s = v) (hx : a.eval x = u) (hr : (Builtin.append_ #[t, t] o.type #[v, u]).run P w = .ok v' w') (hK : K (a.put o.dst v') w') : if Region.wanted o (yielded ops a.tmps) = true then Oper.wp P o a w K Q else E := by
  have hw : Region.wanted o (yielded ops a.tmps) = true := by simp [Region.wanted, hgd]
  rw [if_pos hw]
  unfold Oper.wp execOp
  simp only [ho, resolve, invoke, builtin, Sem.run_bind, Sem.run_pure, Result.andThen_ok, List.map_toArray, List.map_cons, List.map_nil, hs, hx, hr]
  exact hK
theorem emp_ne {to : ByteArray} (h : ¬ to = ⟨#[]⟩) : to.toList.isEmpty = false := by
  rw [Lib.toList_data]
  cases hd : to.data.toList with
  | nil => exact absurd (by rw [← Lib.mk_data to, hd]) h
  | cons _ _ => rfl

set_option maxHeartbeats 8000000 in
set_option maxRecDepth 100000 in
theorem call_c {c : Lc} {s : Ls} {w : World} (k : Int) (nm to : ByteArray) (new : Bool) (ea : Option Addr) (ec : Nat) (e : List Ex) (ba : Option Addr) (bc : Nat) (body : List St) (la : Option Addr) (lc : Nat) (els : List St) (pos : Int) (hp : s.pos < c.ds.length) (hok : okEL e) (hin : St.In w (fun b => b < c.B) (.mk k nm to new ea ec e ba bc body la lc els pos)) (h : Lk c s w) :
    Calls Tryz.prog 132 #[.pointer (some ⟨c.lb, 0, none⟩), .agg #[.int .u8 k, .string nm, .string to, .bool new, .slice ea e.length ec, .slice ba body.length bc, .slice la els.length lc, .int .i64 pos]] w (PostS c s w (callK c.ds c.D s.pos s.ps nm to new e pos)) := by
  have hb1 := box_lt w (.cells #[.int .u8 k, .string nm, .string to, .bool new, .slice ea e.length ec, .slice ba body.length bc, .slice la els.length lc, .int .i64 pos] 60)
  have hbx : (w.alloc (.cells #[.int .u8 k, .string nm, .string to, .bool new, .slice ea e.length ec, .slice ba body.length bc, .slice la els.length lc, .int .i64 pos] 60)).heap[w.heap.size]? = some (.cells #[.int .u8 k, .string nm, .string to, .bool new, .slice ea e.length ec, .slice ba body.length bc, .slice la els.length lc, .int .i64 pos] 60 (0, 0)) := World.alloc_heap_new w _
  have hnew := h.new_not
  have hlow := h.low
  have h1 := h.ext hb1
  have hs1 := StepS.of_ext h hb1
  have hinS : St.In w (fun b => b < c.B) (.mk k nm to false ea ec e ba bc body la lc els pos) := by
    have h0 := hin
    unfold St.In at h0 ⊢
    exact h0
  unfold St.In at hin
  obtain ⟨_, hn, hto, hpos, herow, hein, hbrow, hbin, hlrow, hlin⟩ := hin
  have hf := find_c h1 nm hn 4 pos
  have hR := Lib.hid (refuse_c pos)
  generalize hr : callK c.ds c.D s.pos s.ps nm to new e pos = r
  rw [callK_eq, show s.ps.kn = s.kn from rfl] at hr
  generalize hq2 : findK c.ds c.D s.kn nm 4 pos = q2 at hf hr
  obtain ⟨bx0, bx1, bx2, bx3, bx4, bx5, bx6, bx7⟩ := box_cells hbx
  replace hr := Lib.hid hr
  replace hf := Lib.hid hf
  replace hs1 := Lib.hid hs1
  replace hlow := Lib.hid hlow
  replace hbx := Lib.hid hbx
  replace hnew := Lib.hid hnew
  replace hq2 := Lib.hid hq2
  replace hinS := Lib.hid hinS
  replace hto := Lib.hid hto
  replace hok := Lib.hid hok
  replace herow := Lib.hid herow
  replace hein := Lib.hid hein
  replace hp := Lib.hid hp
  replace h1 := Lib.hid h1
  replace hn := Lib.hid hn
  clear hpos hbrow hbin hlrow hlin hb1 h
  go_enter Tryz.func132, Tryz.ntmps132
  go_wp2_with fail
  refine hf.out.mono ?_
  rintro e1 w1 ⟨rfl, hq⟩
  cases q2 with
  | error p =>
    simp only at hq
    subst hq
    have hr2 := hr.out
    simp only at hr2
    subst hr2
    exact ⟨rfl, rfl, hs1.out.below⟩
  | ok i =>
    simp only at hq
    subst hq
    have hr2 := hr.out
    simp only at hr2
    obtain ⟨hfd, d, hd, hdk⟩ := findK_ok hq2.out
    rw [hd] at hr2
    simp only at hr2
    have hil : i < c.ds.length := (List.getElem?_eq_some_iff.1 hd).1
    have hds := h1.out.lim
    obtain ⟨b, off, ha, hb, _, _, _, d3, _, _⟩ := de_cells h1.out hd
    have c0 : (w.alloc (.cells #[.int .u8 k, .string nm, .string to, .bool new, .slice ea e.length ec, .slice ba body.length bc, .slice la els.length lc, .int .i64 pos] 60)).cell? ⟨c.lb, 0, none⟩ = some (.slice c.pa c.ds.length c.pcap) := blk_cell h1.out.blk rfl
    rw [ha] at c0
    have hi0 : (0 : Int) ≤ (i : Int) := by omega
    have hi1 : (i : Int) < (c.ds.length : Int) := by omega
    have hf2 := Lib.hid (fun m => hs1.out.ext (below_drewN _ _ m))
    obtain ⟨row, hrow⟩ : ∃ row, s.calls[s.pos]? = some row := ⟨_, List.getElem?_eq_getElem (by rw [h1.out.cln]; exact hp.out)⟩
    have hbxd := Lib.hid (fun m => ((below_drewN (w.alloc (.cells #[.int .u8 k, .string nm, .string to, .bool new, .slice ea e.length ec, .slice ba body.length bc, .slice la els.length lc, .int .i64 pos] 60)).heap.size (w.alloc (.cells #[.int .u8 k, .string nm, .string to, .bool new, .slice ea e.length ec, .slice ba body.length bc, .slice la els.length lc, .int .i64 pos] 60)) m).block _ (cells_lt hbx.out)).trans hbx.out)
    clear hr hf hq2 hd hdk hb ha hfd
    generalize d.params.length = pl at d3 hr2
    by_cases hpl : pl = e.length
    · rw [if_neg (by simp [hpl])] at hr2
      subst hpl
      have hcon := Lib.hid (fun m => contains_c ((hf2.out m).lk.rows _ _ hrow).1 (by have := nodup_len _ _ (h1.out.rnd _ (List.mem_of_getElem? hrow)) (h1.out.rows _ _ hrow).2.1; have := h1.out.few; omega) i)
      have c30 : (w.alloc (.cells #[.int .u8 k, .string nm, .string to, .bool new, .slice ea e.length ec, .slice ba body.length bc, .slice la els.length lc, .int .i64 pos] 60)).cell? ⟨c.lb, 30, none⟩ = some (.slice (some ⟨c.cb, 0, none⟩) c.ds.length c.ds.length) := blk_cell h1.out.blk rfl
      have c31 : (w.alloc (.cells #[.int .u8 k, .string nm, .string to, .bool new, .slice ea e.length ec, .slice ba body.length bc, .slice la els.length lc, .int .i64 pos] 60)).cell? ⟨c.lb, 31, none⟩ = some (.int .i64 (s.pos : Int)) := blk_cell h1.out.blk rfl
      have ccb : (w.alloc (.cells #[.int .u8 k, .string nm, .string to, .bool new, .slice ea e.length ec, .slice ba body.length bc, .slice la els.length lc, .int .i64 pos] 60)).cell? ⟨c.cb, s.pos, none⟩ = some row.val := blk_cell h1.out.cbl (by simp [hrow])
      have hp0 : (0 : Int) ≤ (s.pos : Int) := by omega
      have hp1 : (s.pos : Int) < (c.ds.length : Int) := by have := hp.out; omega
      have hrl := Lib.hid (show (s.ps.calls)[s.pos]? = some row.l by show (s.calls.map CRow.l)[s.pos]? = _; rw [List.getElem?_map, hrow]; rfl)
      replace hrow := Lib.hid hrow
      replace hr2 := Lib.hid hr2
      by_cases hmem : i ∈ row.l
      · rw [decide_eq_true hmem] at hcon
        have hac := addCall_mem hrl.out hmem
        have hr3 := hr2.out
        rw [hac] at hr3
        replace hr3 := Lib.hid (show tailK c.ds c.D s.ps s.ps to new e pos = r from hr3)
        replace hmem := Lib.hid hmem
        clear hr2 hac
        go_wp2_with fail
        go_quiet (fail)
        generalize nq = m1 at *
        go_wp2_with fail
        go_quiet ((go_at_call 166; exact (hcon.out _).mono fun _ _ h => ⟨h.1, _, h.2⟩))
        obtain ⟨V5, hV5⟩ : ∃ V, (w.alloc (.cells #[.int .u8 k, .string nm, .string to, .bool new, .slice ea e.length ec, .slice ba body.length bc, .slice la els.length lc, .int .i64 pos] 60)).drewN (m1 + nq) = V := ⟨_, rfl⟩
        have hst := hf2.out (m1 + nq)
        have hbV := hbxd.out (m1 + nq)
        rw [hV5] at hst hbV
        replace hst := Lib.hid hst
        replace hbV := Lib.hid hbV
        clear hcon hf2 hbxd c0 d3 c30 c31 ccb bx0 bx1 bx2 bx3 bx4 bx5 bx6 bx7
        have hV5b : ((w.alloc (.cells #[.int .u8 k, .string nm, .string to, .bool new, .slice ea e.length ec, .slice ba body.length bc, .slice la els.length lc, .int .i64 pos] 60)).drewN m1).drewN nq = V5 := by rw [← hV5]; simp [World.drewN, Nat.add_assoc]
        simp only [hV5b]
        clear hV5 hV5b
        have hsl := hst.out.lk
        have hw := want_c hsl ea ec e 1 hok.out (herow.out.below (fun b o v hb hc => (World.cell?_of_block (w := w) (a := ⟨b, o, none⟩) (hst.out.below.block b hb)).trans hc)) (Ex.InL.below (fun b o v hb hc => (World.cell?_of_block (w := w) (a := ⟨b, o, none⟩) (hst.out.below.block b hb)).trans hc) _ hein.out)
        have hr4 := hr3.out
        unfold tailK at hr4
        rw [show s.ps.kn = s.kn from rfl] at hr4
        have hw : Calls Tryz.prog 162 #[.pointer (some ⟨c.lb, 0, none⟩), .int .u8 1, .slice ea e.length ec] V5 (PostW V5 (wantK c.ds c.D s.kn 1 e)) := hw
        generalize wantK c.ds c.D s.kn 1 e = q5 at hw hr4
        replace hr4 := Lib.hid hr4
        replace hw := Lib.hid hw
        obtain ⟨bx0, bx1, bx2, bx3, bx4, bx5, bx6, bx7⟩ := box_cells hbV.out
        clear hsl hr3
        go_wp2_with fail
        refine hw.out.mono ?_
        rintro e6 w6 ⟨hb6, hq⟩
        cases q5 with
        | error p =>
          simp only at hq
          subst hq
          have hr5 := hr4.out
          simp only at hr5
          subst hr5
          exact ⟨rfl, rfl, hst.out.below.trans (hb6.mono hst.out.lk.low)⟩
        | ok _ =>
          simp only at hq
          subst hq
          have hr5 := hr4.out
          simp only at hr5
          have hst6 := hst.out.ext hb6
          have hbx6 := (hb6.block _ (cells_lt hbV.out)).trans hbV.out
          clear bx0 bx1 bx2 bx3 bx4 bx5 bx6 bx7 hr4 hw hst hbV
          obtain ⟨bx0, bx1, bx2, bx3, bx4, bx5, bx6, bx7⟩ := box_cells hbx6
          have hde := Lib.hid (declare_c hst6.lk to hto.out 1 pos)
          have hnt := hnew.out
          cases new with
          | true =>
            rw [if_pos rfl] at hr5
            have hde2 : Hid (Calls Tryz.prog 135 #[.pointer (some ⟨c.lb, 0, none⟩), .string to, .int .u8 1, .int .i64 pos] w6 (PostS c (s) w6 r)) := Lib.hid (by rw [← hr5]; exact hde.out)
            replace hst6 := Lib.hid hst6
            replace hr5 := Lib.hid hr5
            clear hde hb6 hbx6
            go_wp2_with fail
            refine hde2.out.mono ?_
            intro e7 w7 hP
            cases r with
            | error p =>
              obtain ⟨rfl, hb7⟩ := hP
              exact ⟨rfl, rfl, hst6.out.below.trans hb7⟩
            | ok p7 =>
              obtain ⟨rfl, s7, hs7, hp7⟩ := hP
              have hfin := Lib.hid (hst6.out.trans hs7)
              clear hs7 hst6 hde2 hr5 bx0 bx1 bx2 bx3 bx4 bx5 bx6 bx7
              go_wp2_with fail
              exact ⟨rfl, .tuple #[], by simp [results, Tryz.results132, go_sem], rfl, s7, hfin.out, hp7⟩
          | false =>
            rw [if_neg (by decide)] at hr5
            clear hde
            by_cases hte : to = ⟨#[]⟩
            · rw [if_pos hte] at hr5
              subst hte
              subst hr5
              replace hst6 := Lib.hid hst6
              clear hb6 hbx6
              go_wp2_with fail
              exact ⟨rfl, .tuple #[], by simp [results, Tryz.results132, go_sem], rfl, s, hst6.out, rfl⟩
            · rw [if_neg hte] at hr5
              have htn := emp_ne hte
              have han := answer_c k nm to false ea ec e ba bc body la lc els pos (St.In.below (fun b o v hb hc => (World.cell?_of_block (w := w) (a := ⟨b, o, none⟩) (hst6.below.block b hb)).trans hc) _ hinS.out) hst6.lk
              have han2 : Hid (Calls Tryz.prog 167 #[.pointer (some ⟨c.lb, 0, none⟩), .agg #[.int .u8 k, .string nm, .string to, .bool false, .slice ea e.length ec, .slice ba body.length bc, .slice la els.length lc, .int .i64 pos]] w6 (PostS c (s) w6 (match answerK c.D s.kn to pos with | .error q => .error q | .ok _ => .ok ((s) : Ls).ps))) := Lib.hid han
              generalize answerK c.D s.kn to pos = q7 at han2 hr5
              replace hst6 := Lib.hid hst6
              replace hr5 := Lib.hid hr5
              clear hb6 hbx6 hte han
              go_wp2_with fail
              refine han2.out.mono ?_
              intro e7 w7 hP
              cases q7 with
              | error p =>
                obtain ⟨rfl, hb7⟩ := hP
                have hr6 := hr5.out
                simp only at hr6
                subst hr6
                exact ⟨rfl, rfl, hst6.out.below.trans hb7⟩
              | ok _ =>
                obtain ⟨rfl, s7, hs7, hp7⟩ := hP
                have hr6 := hr5.out
                simp only at hr6
                subst hr6
                have hfin := Lib.hid (hst6.out.trans hs7)
                clear hs7 hst6 han2 bx0 bx1 bx2 bx3 bx4 bx5 bx6 bx7
                go_wp2_with fail
                exact ⟨rfl, .tuple #[], by simp [results, Tryz.results132, go_sem], rfl, s7, hfin.out, by rw [hp7]⟩
      · rw [decide_eq_false hmem] at hcon
        have hac := addCall_new hrl.out hmem
        have hr3 := hr2.out
        rw [hac] at hr3
        replace hr3 := Lib.hid hr3
        replace hmem := Lib.hid hmem
        clear hr2 hac
        go_wp2_with fail
        go_quiet (fail)
        generalize nq = m1 at *
        go_wp2_with fail
        go_quiet ((go_at_call 166; exact (hcon.out _).mono fun _ _ h => ⟨h.1, _, h.2⟩))
        obtain ⟨V, hV⟩ : ∃ V, (w.alloc (.cells #[.int .u8 k, .string nm, .string to, .bool new, .slice ea e.length ec, .slice ba body.length bc, .slice la els.length lc, .int .i64 pos] 60)).drewN (m1 + nq) = V := ⟨_, rfl⟩
        have hstV := hf2.out (m1 + nq)
        have hbV0 := hbxd.out (m1 + nq)
        rw [hV] at hstV hbV0
        clear hcon hf2 hbxd c0 d3 c30 c31 ccb bx0 bx1 bx2 bx3 bx4 bx5 bx6 bx7
        have hVb : ((w.alloc (.cells #[.int .u8 k, .string nm, .string to, .bool new, .slice ea e.length ec, .slice ba body.length bc, .slice la els.length lc, .int .i64 pos] 60)).drewN m1).drewN nq = V := by rw [← hV]; simp [World.drewN, Nat.add_assoc]
        simp only [hVb]
        clear hV hVb
        go_wp2_with fail
        have hBd : Below V.heap.size V V.drew := (Below.refl _ _).drew
        have hSF : Hid (∀ X, Below V.heap.size V X → ((fun X : World => X.cell? ⟨c.lb, 30, none⟩ = some (.slice (some ⟨c.cb, 0, none⟩) c.ds.length c.ds.length) ∧ X.cell? ⟨c.lb, 31, none⟩ = some (.int .i64 (s.pos : Int)))) X) := Lib.hid fun X hX => by
          have hk := hstV.lk.ext hX
          exact ⟨blk_cell hk.blk rfl, blk_cell hk.blk rfl⟩
        have hB2 : Below V.heap.size V (V.drew.alloc (.cells #[.int .i64 (i : Int)] 3)) := hBd.trans ((box_lt V.drew _).mono (Nat.le_of_eq rfl))
        have hown := (hstV.lk.ext hB2).rows _ _ hrow.out
        have hg1 : (V.drew.alloc (.cells #[.int .i64 (i : Int)] 3)).heap[V.heap.size]? = some (.cells #[.int .i64 (i : Int)] 3 (0, 0)) := World.alloc_heap_new V.drew _
        have hrl2 : row.l.length ≤ 256 := by have := nodup_len _ _ (hstV.lk.rnd _ (List.mem_of_getElem? hrow.out)) (hstV.lk.rows _ _ hrow.out).2.1; have := hstV.lk.few; omega
        obtain ⟨v', W6, hrun, ho6, hg6, hv6⟩ := append_run hown.1 hrl2 (hstV.lk.ext hB2).low i V.heap.size (0, 0) hg1 180
        have hform : ∃ g n cap, v' = .slice (some ⟨g, 0, none⟩) n cap := by
          obtain ⟨_, ⟨_, h0⟩ | ⟨g, cap, cur, hv, _⟩⟩ := ho6
          · simp at h0
          · exact ⟨g, _, cap, hv⟩
        obtain ⟨g6, n6, cap6, hv6'⟩ := hform
        subst hv6'
        have hcal := hstV.lk.called hrow.out hil hmem.out hB2 hg6 ho6 hv6
        have hst := hstV.trans hcal
        have hS := hSF.out _ hBd
        have hS2 := hSF.out _ hB2
        have hcb6 : W6.cell? ⟨c.cb, s.pos, none⟩ = some row.val ∧ W6.frozen? ⟨c.cb, s.pos, none⟩ = false ∧ W6.cell? ⟨c.lb, 30, none⟩ = some (.slice (some ⟨c.cb, 0, none⟩) c.ds.length c.ds.length) ∧ W6.cell? ⟨c.lb, 31, none⟩ = some (.int .i64 (s.pos : Int)) := by
          have hk := hstV.lk.ext hB2
          have h5 := (hg6.block c.cb (cells_lt hk.cbl) (fun e => (hown.2.2 _ e.symm).2 rfl)).trans hk.cbl
          have h6 := (hg6.block c.lb (cells_lt hk.blk) (fun e => (hown.2.2 _ e.symm).1 rfl)).trans hk.blk
          exact ⟨blk_cell h5 (by simp [hrow.out]), blk_free h5 _, blk_cell h6 rfl, blk_cell h6 rfl⟩
        have hS7 : ((fun X : World => X.cell? ⟨c.lb, 30, none⟩ = some (.slice (some ⟨c.cb, 0, none⟩) c.ds.length c.ds.length) ∧ X.cell? ⟨c.lb, 31, none⟩ = some (.int .i64 (s.pos : Int)))) (W6.setCell ⟨c.cb, s.pos, none⟩ (.slice (some ⟨g6, 0, none⟩) n6 cap6)) := ⟨blk_cell hcal.lk.blk rfl, blk_cell hcal.lk.blk rfl⟩
        obtain ⟨q0, q1, q2, q3⟩ := hcb6
        have hx0 : V.drew.cell? ⟨c.cb, s.pos, none⟩ = some row.val := blk_cell (hstV.lk.ext hBd).cbl (by simp [hrow.out])
        have hx1 : ((V.alloc (.cells #[.int .i64 (i : Int)] 3)).drew).cell? ⟨c.cb, s.pos, none⟩ = some row.val := blk_cell (hstV.lk.ext hB2).cbl (by simp [hrow.out])
        have hS6 : ((fun X : World => X.cell? ⟨c.lb, 30, none⟩ = some (.slice (some ⟨c.cb, 0, none⟩) c.ds.length c.ds.length) ∧ X.cell? ⟨c.lb, 31, none⟩ = some (.int .i64 (s.pos : Int)))) W6 := ⟨q2, q3⟩
        have hsz : (V.drew).heap.size = V.heap.size := rfl
        have hbW : Hid ((W6.setCell ⟨c.cb, s.pos, none⟩ (.slice (some ⟨g6, 0, none⟩) n6 cap6)).heap[w.heap.size]? = some (.cells #[.int .u8 k, .string nm, .string to, .bool new, .slice ea e.length ec, .slice ba body.length bc, .slice la els.length lc, .int .i64 pos] 60 (0, 0))) := Lib.hid ((hcal.same _ (cells_lt hbV0) hnew.out).trans hbV0)
        replace hst := Lib.hid hst
        replace hrun := hrun
        clear hcal hown hg1 hrl2 ho6 hg6 hv6 hstV hbV0 hSF hBd hB2
        have hps : Hid ((({ s with calls := s.calls.set s.pos (⟨(.slice (some ⟨g6, 0, none⟩) n6 cap6), row.l ++ [i]⟩ : CRow) }) : Ls).ps = PS.mk s.ps.dec s.kn (s.ps.calls.set s.pos (row.l ++ [i]))) := Lib.hid (by
          show PS.mk s.dec s.kn ((s.calls.set s.pos _).map CRow.l) = PS.mk s.dec s.kn ((s.calls.map CRow.l).set s.pos (row.l ++ [i]))
          rw [List.map_set])
        refine wp_region_noPanic ?_
        refine wp_region_held_drew (S := (fun X : World => X.cell? ⟨c.lb, 30, none⟩ = some (.slice (some ⟨c.cb, 0, none⟩) c.ds.length c.ds.length) ∧ X.cell? ⟨c.lb, 31, none⟩ = some (.int .i64 (s.pos : Int)))) (by kernel_rfl) hS (fun hHeld => ?_)
        refine' wpAnyH_take (i := 0) (oi := _) (v := _) rfl (by kernel_rfl) (by kernel_rfl) (by kernel_rfl) (fun _ _ _ h => h) (Or.inl ⟨by rfl, ?hyo0⟩) (by assumption) ?resto0
        case hyo0 => (intro w hSw; go_simp; all_goals (with_reducible rfl))
        try simp only [Act.put, List.getElem_toArray, List.getElem_cons_zero, List.setIfInBounds_toArray, List.set_cons_zero, List.set_cons_succ]
        refine' wpAnyH_take (i := 1) (oi := _) (v := _) rfl (by kernel_rfl) (by kernel_rfl) (by kernel_rfl) (fun _ _ _ h => h) (Or.inl ⟨by rfl, ?hyo1⟩) (by assumption) ?resto1
        case hyo1 => (intro w hSw; go_simp; all_goals (with_reducible rfl))
        try simp only [Act.put, List.getElem_toArray, List.getElem_cons_zero, List.getElem_cons_succ, List.setIfInBounds_toArray, List.set_cons_zero, List.set_cons_succ]
        refine' wpAnyH_take (i := 2) (oi := _) (v := _) rfl (by kernel_rfl) (by kernel_rfl) (by kernel_rfl) (fun _ _ _ h => h) (Or.inl ⟨by rfl, ?hyo2⟩) (by assumption) ?resto2
        case hyo2 => (intro w hSw; go_simp; all_goals (with_reducible rfl))
        try simp only [Act.put, List.getElem_toArray, List.getElem_cons_zero, List.getElem_cons_succ, List.setIfInBounds_toArray, List.set_cons_zero, List.set_cons_succ]
        refine' wpAnyH_take (i := 3) (oi := _) (v := _) rfl (by kernel_rfl) (by kernel_rfl) (by kernel_rfl) (fun _ _ _ h => h) (Or.inl ⟨by rfl, ?hyo3⟩) (by assumption) ?resto3
        case hyo3 => (intro w hSw; go_simp; all_goals (with_reducible rfl))
        try simp only [Act.put, List.getElem_toArray, List.getElem_cons_zero, List.getElem_cons_succ, List.setIfInBounds_toArray, List.set_cons_zero, List.set_cons_succ]
        refine' wpAnyH_take (i := 4) (oi := _) (v := _) rfl (by kernel_rfl) (by kernel_rfl) (by kernel_rfl) (fun _ _ _ h => h) (Or.inl ⟨by rfl, ?hyo4⟩) (by assumption) ?resto4
        case hyo4 => (intro w hSw; go_simp; all_goals (with_reducible rfl))
        try simp only [Act.put, List.getElem_toArray, List.getElem_cons_zero, List.getElem_cons_succ, List.setIfInBounds_toArray, List.set_cons_zero, List.set_cons_succ]
        refine' wpAnyH_take (i := 5) (oi := _) (v := _) rfl (by kernel_rfl) (by kernel_rfl) (by kernel_rfl) (fun _ _ _ h => h) (Or.inl ⟨by rfl, ?hyo5⟩) (by assumption) ?resto5
        case hyo5 => (intro w hSw; go_simp; all_goals (with_reducible rfl))
        try simp only [Act.put, List.getElem_toArray, List.getElem_cons_zero, List.getElem_cons_succ, List.setIfInBounds_toArray, List.set_cons_zero, List.set_cons_succ]
        refine' wpAnyH_take (i := 6) (oi := _) (v := _) rfl (by kernel_rfl) (by kernel_rfl) (by kernel_rfl) (fun _ _ _ h => h) (Or.inl ⟨by rfl, ?hyo6⟩) (by assumption) ?resto6
        case hyo6 => (intro w hSw; go_simp; all_goals (with_reducible rfl))
        try simp only [Act.put, List.getElem_toArray, List.getElem_cons_zero, List.getElem_cons_succ, List.setIfInBounds_toArray, List.set_cons_zero, List.set_cons_succ]
        refine' wpAnyH_take (i := 7) (oi := _) (v := _) rfl (by kernel_rfl) (by kernel_rfl) (by kernel_rfl) (fun _ _ _ h => h) (Or.inl ⟨by rfl, ?hyo7⟩) (by assumption) ?resto7
        case hyo7 => (intro w hSw; go_simp; all_goals (with_reducible rfl))
        try simp only [Act.put, List.getElem_toArray, List.getElem_cons_zero, List.getElem_cons_succ, List.setIfInBounds_toArray, List.set_cons_zero, List.set_cons_succ]
        refine' wpAnyH_take (i := 8) (oi := _) (v := _) rfl (by kernel_rfl) (by kernel_rfl) (by kernel_rfl) (fun _ _ _ h => h) (Or.inl ⟨by rfl, ?hyo8⟩) (by assumption) ?resto8
        case hyo8 => (intro w hSw; go_simp; all_goals (with_reducible rfl))
        try simp only [Act.put, List.getElem_toArray, List.getElem_cons_zero, List.getElem_cons_succ, List.setIfInBounds_toArray, List.set_cons_zero, List.set_cons_succ]
        refine' wpAnyH_take (i := 9) (oi := _) (v := _) rfl (by kernel_rfl) (by kernel_rfl) (by kernel_rfl) (fun _ _ _ h => h) (Or.inl ⟨by rfl, ?hyo9⟩) (by assumption) ?resto9
        case hyo9 => (intro w hSw; go_simp; all_goals (with_reducible rfl))
        try simp only [Act.put, List.getElem_toArray, List.getElem_cons_zero, List.getElem_cons_succ, List.setIfInBounds_toArray, List.set_cons_zero, List.set_cons_succ]
        refine' wpAnyH_take (i := 10) (oi := _) (v := _) rfl (by kernel_rfl) (by kernel_rfl) (by kernel_rfl) (fun _ _ _ h => h) (Or.inl ⟨by rfl, ?hyo10⟩) (by assumption) ?resto10
        case hyo10 => (intro w hSw; go_simp; all_goals (with_reducible rfl))
        try simp only [Act.put, List.getElem_toArray, List.getElem_cons_zero, List.getElem_cons_succ, List.setIfInBounds_toArray, List.set_cons_zero, List.set_cons_succ]
        refine' wpAnyH_take (i := 11) (oi := _) (v := _) rfl (by kernel_rfl) (by kernel_rfl) (by kernel_rfl) (fun _ _ _ h => h) (Or.inl ⟨by rfl, ?hyo11⟩) (by assumption) ?resto11
        case hyo11 => (intro w hSw; go_simp; all_goals (with_reducible rfl))
        try simp only [Act.put, List.getElem_toArray, List.getElem_cons_zero, List.getElem_cons_succ, List.setIfInBounds_toArray, List.set_cons_zero, List.set_cons_succ]
        refine' wpAnyH_take (i := 12) (oi := _) (v := _) rfl (by kernel_rfl) (by kernel_rfl) (by kernel_rfl) (fun _ _ _ h => h) (Or.inl ⟨by rfl, ?hyo12⟩) (by assumption) ?resto12
        case hyo12 => (intro w hSw; go_simp; all_goals (with_reducible rfl))
        try simp only [Act.put, List.getElem_toArray, List.getElem_cons_zero, List.getElem_cons_succ, List.setIfInBounds_toArray, List.set_cons_zero, List.set_cons_succ]
        refine' wpAnyH_take (i := 13) (oi := _) (v := _) rfl (by kernel_rfl) (by kernel_rfl) (by kernel_rfl) (fun _ _ _ h => h) (Or.inl ⟨by rfl, ?hyo13⟩) (by assumption) ?resto13
        case hyo13 => (intro w hSw; go_simp; all_goals (with_reducible rfl))
        try simp only [Act.put, List.getElem_toArray, List.getElem_cons_zero, List.getElem_cons_succ, List.setIfInBounds_toArray, List.set_cons_zero, List.set_cons_succ]
        refine' wpAnyH_take (i := 14) (oi := _) (v := _) rfl (by kernel_rfl) (by kernel_rfl) (by kernel_rfl) (fun _ _ _ h => h) (Or.inl ⟨by rfl, ?hyo14⟩) (by assumption) ?resto14
        case hyo14 => (intro w hSw; go_simp; all_goals (with_reducible rfl))
        try simp only [Act.put, List.getElem_toArray, List.getElem_cons_zero, List.getElem_cons_succ, List.setIfInBounds_toArray, List.set_cons_zero, List.set_cons_succ]
        refine' wpAnyH_take (i := 15) (oi := _) (v := _) rfl (by kernel_rfl) (by kernel_rfl) (by kernel_rfl) (fun _ _ _ h => h) (Or.inl ⟨by rfl, ?hyo15⟩) (by assumption) ?resto15
        case hyo15 => (intro w hSw; go_simp; all_goals (with_reducible rfl))
        try simp only [Act.put, List.getElem_toArray, List.getElem_cons_zero, List.getElem_cons_succ, List.setIfInBounds_toArray, List.set_cons_zero, List.set_cons_succ]
        refine' wpAnyH_take (i := 16) (oi := _) (v := _) rfl (by kernel_rfl) (by kernel_rfl) (by kernel_rfl) (fun _ _ _ h => h) (Or.inl ⟨by rfl, ?hyo16⟩) (by assumption) ?resto16
        case hyo16 => (intro w hSw; go_simp; all_goals (with_reducible rfl))
        try simp only [Act.put, List.getElem_toArray, List.getElem_cons_zero, List.getElem_cons_succ, List.setIfInBounds_toArray, List.set_cons_zero, List.set_cons_succ]
        refine' wpAnyH_take (i := 18) (oi := _) (v := _) rfl (by kernel_rfl) (by kernel_rfl) (by kernel_rfl) (fun _ _ _ h => h) (Or.inl ⟨by rfl, ?hyo18⟩) (by assumption) ?resto18
        case hyo18 => (intro w hSw; go_simp; all_goals (with_reducible rfl))
        try simp only [Act.put, List.getElem_toArray, List.getElem_cons_zero, List.getElem_cons_succ, List.setIfInBounds_toArray, List.set_cons_zero, List.set_cons_succ]
        refine wpAnyH_ready (rs := [17, 19]) (by kernel_rfl) (by simp) ?_
        refine AllReadyH.cons (o := _) rfl (fun K hK => ?_) (AllReadyH.cons (o := _) rfl (fun K hK => ?_) AllReadyH.nil)
        · replace hK := Lib.hid hK
          go_simp
          refine hK.out.out _ _ hS (fun hHeld => ?_)
          clear hK K
          try simp only [Act.put, List.getElem_toArray, List.getElem_cons_zero, List.getElem_cons_succ, List.setIfInBounds_toArray, List.set_cons_zero, List.set_cons_succ]
          refine wpAnyH_ready (rs := [19]) (by kernel_rfl) (by simp) ?_
          refine AllReadyH.cons (o := _) rfl (fun K hK => ?_) AllReadyH.nil
          replace hK := Lib.hid hK
          go_simp
          refine hK.out.out _ _ hS2 (fun hHeld => ?_)
          clear hK K
          try simp only [Act.put, List.getElem_toArray, List.getElem_cons_zero, List.getElem_cons_succ, List.setIfInBounds_toArray, List.set_cons_zero, List.set_cons_succ]
          refine wpAnyH_ready (rs := [20]) (by kernel_rfl) (by simp) ?_
          refine AllReadyH.cons (o := _) rfl (fun K hK => ?_) AllReadyH.nil
          replace hK := Lib.hid hK
          refine step_run rfl (.tmp 57) (.tmp 59) 180 rfl _ _ _ _ rfl rfl hrun ?_
          refine hK.out.out _ _ hS6 (fun hHeld => ?_)
          clear hK K
          try simp only [Act.put, List.getElem_toArray, List.getElem_cons_zero, List.getElem_cons_succ, List.setIfInBounds_toArray, List.set_cons_zero, List.set_cons_succ]
          refine' wpAnyH_take (i := 21) (oi := _) (v := _) rfl (by kernel_rfl) (by kernel_rfl) (by kernel_rfl) (fun _ _ _ h => h) (Or.inl ⟨by rfl, ?hyp21⟩) (by assumption) ?restp21
          case hyp21 => (intro w hSw; go_simp; all_goals (with_reducible rfl))
          try simp only [Act.put, List.getElem_toArray, List.getElem_cons_zero, List.getElem_cons_succ, List.setIfInBounds_toArray, List.set_cons_zero, List.set_cons_succ]
          refine wpAnyH_ready (rs := [22]) (by kernel_rfl) (by simp) ?_
          refine AllReadyH.cons (o := _) rfl (fun K hK => ?_) AllReadyH.nil
          replace hK := Lib.hid hK
          go_simp
          refine hK.out.out _ _ hS7 (fun hHeld => ?_)
          clear hK K
          refine wpAnyH_done (by kernel_rfl) ?_ _
          refine NoPanic.normal ?_
          obtain ⟨V5, hV5⟩ : ∃ V, W6.setCell ⟨c.cb, s.pos, none⟩ (.slice (some ⟨g6, 0, none⟩) n6 cap6) = V := ⟨_, rfl⟩
          have hst5 := hst.out
          have hbV := hbW.out
          rw [hV5] at hst5 hbV
          simp only [hV5]
          replace hst := Lib.hid hst5
          replace hbV := Lib.hid hbV
          clear hV5 hst5 hbW hS7 hHeld hS6 hS2 hS hrun hx0 hx1 q0 q1 q2 q3
          have hsl := hst.out.lk
          have hw := want_c hsl ea ec e 1 hok.out (herow.out.below (fun b o v hb hc => (World.cell?_of_block (w := w) (a := ⟨b, o, none⟩) (hst.out.below.block b hb)).trans hc)) (Ex.InL.below (fun b o v hb hc => (World.cell?_of_block (w := w) (a := ⟨b, o, none⟩) (hst.out.below.block b hb)).trans hc) _ hein.out)
          have hr4 := hr3.out
          unfold tailK at hr4
          rw [show s.ps.kn = s.kn from rfl] at hr4
          have hw : Calls Tryz.prog 162 #[.pointer (some ⟨c.lb, 0, none⟩), .int .u8 1, .slice ea e.length ec] V5 (PostW V5 (wantK c.ds c.D s.kn 1 e)) := hw
          generalize wantK c.ds c.D s.kn 1 e = q5 at hw hr4
          replace hr4 := Lib.hid hr4
          replace hw := Lib.hid hw
          obtain ⟨bx0, bx1, bx2, bx3, bx4, bx5, bx6, bx7⟩ := box_cells hbV.out
          clear hsl hr3
          go_wp2_with fail
          refine hw.out.mono ?_
          rintro e6 w6 ⟨hb6, hq⟩
          cases q5 with
          | error p =>
            simp only at hq
            subst hq
            have hr5 := hr4.out
            simp only at hr5
            subst hr5
            exact ⟨rfl, rfl, hst.out.below.trans (hb6.mono hst.out.lk.low)⟩
          | ok _ =>
            simp only at hq
            subst hq
            have hr5 := hr4.out
            simp only at hr5
            have hst6 := hst.out.ext hb6
            have hbx6 := (hb6.block _ (cells_lt hbV.out)).trans hbV.out
            clear bx0 bx1 bx2 bx3 bx4 bx5 bx6 bx7 hr4 hw hst hbV
            obtain ⟨bx0, bx1, bx2, bx3, bx4, bx5, bx6, bx7⟩ := box_cells hbx6
            have hde := Lib.hid (declare_c hst6.lk to hto.out 1 pos)
            have hnt := hnew.out
            cases new with
            | true =>
              rw [if_pos rfl] at hr5
              have hde2 : Hid (Calls Tryz.prog 135 #[.pointer (some ⟨c.lb, 0, none⟩), .string to, .int .u8 1, .int .i64 pos] w6 (PostS c (({ s with calls := s.calls.set s.pos (⟨(.slice (some ⟨g6, 0, none⟩) n6 cap6), row.l ++ [i]⟩ : CRow) })) w6 r)) := Lib.hid (by rw [← hr5, ← hps.out]; exact hde.out)
              replace hst6 := Lib.hid hst6
              replace hr5 := Lib.hid hr5
              clear hde hb6 hbx6
              go_wp2_with fail
              refine hde2.out.mono ?_
              intro e7 w7 hP
              cases r with
              | error p =>
                obtain ⟨rfl, hb7⟩ := hP
                exact ⟨rfl, rfl, hst6.out.below.trans hb7⟩
              | ok p7 =>
                obtain ⟨rfl, s7, hs7, hp7⟩ := hP
                have hfin := Lib.hid (hst6.out.trans hs7)
                clear hs7 hst6 hde2 hr5 bx0 bx1 bx2 bx3 bx4 bx5 bx6 bx7
                go_wp2_with fail
                exact ⟨rfl, .tuple #[], by simp [results, Tryz.results132, go_sem], rfl, s7, hfin.out, hp7⟩
            | false =>
              rw [if_neg (by decide)] at hr5
              clear hde
              by_cases hte : to = ⟨#[]⟩
              · rw [if_pos hte] at hr5
                subst hte
                subst hr5
                replace hst6 := Lib.hid hst6
                clear hb6 hbx6
                go_wp2_with fail
                exact ⟨rfl, .tuple #[], by simp [results, Tryz.results132, go_sem], rfl, ({ s with calls := s.calls.set s.pos (⟨(.slice (some ⟨g6, 0, none⟩) n6 cap6), row.l ++ [i]⟩ : CRow) }), hst6.out, hps.out⟩
              · rw [if_neg hte] at hr5
                have htn := emp_ne hte
                have han := answer_c k nm to false ea ec e ba bc body la lc els pos (St.In.below (fun b o v hb hc => (World.cell?_of_block (w := w) (a := ⟨b, o, none⟩) (hst6.below.block b hb)).trans hc) _ hinS.out) hst6.lk
                have han2 : Hid (Calls Tryz.prog 167 #[.pointer (some ⟨c.lb, 0, none⟩), .agg #[.int .u8 k, .string nm, .string to, .bool false, .slice ea e.length ec, .slice ba body.length bc, .slice la els.length lc, .int .i64 pos]] w6 (PostS c (({ s with calls := s.calls.set s.pos (⟨(.slice (some ⟨g6, 0, none⟩) n6 cap6), row.l ++ [i]⟩ : CRow) })) w6 (match answerK c.D s.kn to pos with | .error q => .error q | .ok _ => .ok ((({ s with calls := s.calls.set s.pos (⟨(.slice (some ⟨g6, 0, none⟩) n6 cap6), row.l ++ [i]⟩ : CRow) })) : Ls).ps))) := Lib.hid han
                generalize answerK c.D s.kn to pos = q7 at han2 hr5
                replace hst6 := Lib.hid hst6
                replace hr5 := Lib.hid hr5
                clear hb6 hbx6 hte han
                go_wp2_with fail
                refine han2.out.mono ?_
                intro e7 w7 hP
                cases q7 with
                | error p =>
                  obtain ⟨rfl, hb7⟩ := hP
                  have hr6 := hr5.out
                  simp only at hr6
                  subst hr6
                  exact ⟨rfl, rfl, hst6.out.below.trans hb7⟩
                | ok _ =>
                  obtain ⟨rfl, s7, hs7, hp7⟩ := hP
                  have hr6 := hr5.out
                  simp only at hr6
                  subst hr6
                  have hfin := Lib.hid (hst6.out.trans hs7)
                  clear hs7 hst6 han2 bx0 bx1 bx2 bx3 bx4 bx5 bx6 bx7
                  go_wp2_with fail
                  exact ⟨rfl, .tuple #[], by simp [results, Tryz.results132, go_sem], rfl, s7, hfin.out, by rw [hp7, hps.out]⟩
        · replace hK := Lib.hid hK
          go_simp
          refine hK.out.out _ _ hS2 (fun hHeld => ?_)
          clear hK K
          try simp only [Act.put, List.getElem_toArray, List.getElem_cons_zero, List.getElem_cons_succ, List.setIfInBounds_toArray, List.set_cons_zero, List.set_cons_succ]
          refine wpAnyH_ready (rs := [17]) (by kernel_rfl) (by simp) ?_
          refine AllReadyH.cons (o := _) rfl (fun K hK => ?_) AllReadyH.nil
          replace hK := Lib.hid hK
          go_simp
          refine hK.out.out _ _ hS2 (fun hHeld => ?_)
          clear hK K
          try simp only [Act.put, List.getElem_toArray, List.getElem_cons_zero, List.getElem_cons_succ, List.setIfInBounds_toArray, List.set_cons_zero, List.set_cons_succ]
          refine wpAnyH_ready (rs := [20]) (by kernel_rfl) (by simp) ?_
          refine AllReadyH.cons (o := _) rfl (fun K hK => ?_) AllReadyH.nil
          replace hK := Lib.hid hK
          refine step_run rfl (.tmp 57) (.tmp 59) 180 rfl _ _ _ _ rfl rfl hrun ?_
          refine hK.out.out _ _ hS6 (fun hHeld => ?_)
          clear hK K
          try simp only [Act.put, List.getElem_toArray, List.getElem_cons_zero, List.getElem_cons_succ, List.setIfInBounds_toArray, List.set_cons_zero, List.set_cons_succ]
          refine' wpAnyH_take (i := 21) (oi := _) (v := _) rfl (by kernel_rfl) (by kernel_rfl) (by kernel_rfl) (fun _ _ _ h => h) (Or.inl ⟨by rfl, ?hyq21⟩) (by assumption) ?restq21
          case hyq21 => (intro w hSw; go_simp; all_goals (with_reducible rfl))
          try simp only [Act.put, List.getElem_toArray, List.getElem_cons_zero, List.getElem_cons_succ, List.setIfInBounds_toArray, List.set_cons_zero, List.set_cons_succ]
          refine wpAnyH_ready (rs := [22]) (by kernel_rfl) (by simp) ?_
          refine AllReadyH.cons (o := _) rfl (fun K hK => ?_) AllReadyH.nil
          replace hK := Lib.hid hK
          go_simp
          refine hK.out.out _ _ hS7 (fun hHeld => ?_)
          clear hK K
          refine wpAnyH_done (by kernel_rfl) ?_ _
          refine NoPanic.normal ?_
          obtain ⟨V5, hV5⟩ : ∃ V, W6.setCell ⟨c.cb, s.pos, none⟩ (.slice (some ⟨g6, 0, none⟩) n6 cap6) = V := ⟨_, rfl⟩
          have hst5 := hst.out
          have hbV := hbW.out
          rw [hV5] at hst5 hbV
          simp only [hV5]
          replace hst := Lib.hid hst5
          replace hbV := Lib.hid hbV
          clear hV5 hst5 hbW hS7 hHeld hS6 hS2 hS hrun hx0 hx1 q0 q1 q2 q3
          have hsl := hst.out.lk
          have hw := want_c hsl ea ec e 1 hok.out (herow.out.below (fun b o v hb hc => (World.cell?_of_block (w := w) (a := ⟨b, o, none⟩) (hst.out.below.block b hb)).trans hc)) (Ex.InL.below (fun b o v hb hc => (World.cell?_of_block (w := w) (a := ⟨b, o, none⟩) (hst.out.below.block b hb)).trans hc) _ hein.out)
          have hr4 := hr3.out
          unfold tailK at hr4
          rw [show s.ps.kn = s.kn from rfl] at hr4
          have hw : Calls Tryz.prog 162 #[.pointer (some ⟨c.lb, 0, none⟩), .int .u8 1, .slice ea e.length ec] V5 (PostW V5 (wantK c.ds c.D s.kn 1 e)) := hw
          generalize wantK c.ds c.D s.kn 1 e = q5 at hw hr4
          replace hr4 := Lib.hid hr4
          replace hw := Lib.hid hw
          obtain ⟨bx0, bx1, bx2, bx3, bx4, bx5, bx6, bx7⟩ := box_cells hbV.out
          clear hsl hr3
          go_wp2_with fail
          refine hw.out.mono ?_
          rintro e6 w6 ⟨hb6, hq⟩
          cases q5 with
          | error p =>
            simp only at hq
            subst hq
            have hr5 := hr4.out
            simp only at hr5
            subst hr5
            exact ⟨rfl, rfl, hst.out.below.trans (hb6.mono hst.out.lk.low)⟩
          | ok _ =>
            simp only at hq
            subst hq
            have hr5 := hr4.out
            simp only at hr5
            have hst6 := hst.out.ext hb6
            have hbx6 := (hb6.block _ (cells_lt hbV.out)).trans hbV.out
            clear bx0 bx1 bx2 bx3 bx4 bx5 bx6 bx7 hr4 hw hst hbV
            obtain ⟨bx0, bx1, bx2, bx3, bx4, bx5, bx6, bx7⟩ := box_cells hbx6
            have hde := Lib.hid (declare_c hst6.lk to hto.out 1 pos)
            have hnt := hnew.out
            cases new with
            | true =>
              rw [if_pos rfl] at hr5
              have hde2 : Hid (Calls Tryz.prog 135 #[.pointer (some ⟨c.lb, 0, none⟩), .string to, .int .u8 1, .int .i64 pos] w6 (PostS c (({ s with calls := s.calls.set s.pos (⟨(.slice (some ⟨g6, 0, none⟩) n6 cap6), row.l ++ [i]⟩ : CRow) })) w6 r)) := Lib.hid (by rw [← hr5, ← hps.out]; exact hde.out)
              replace hst6 := Lib.hid hst6
              replace hr5 := Lib.hid hr5
              clear hde hb6 hbx6
              go_wp2_with fail
              refine hde2.out.mono ?_
              intro e7 w7 hP
              cases r with
              | error p =>
                obtain ⟨rfl, hb7⟩ := hP
                exact ⟨rfl, rfl, hst6.out.below.trans hb7⟩
              | ok p7 =>
                obtain ⟨rfl, s7, hs7, hp7⟩ := hP
                have hfin := Lib.hid (hst6.out.trans hs7)
                clear hs7 hst6 hde2 hr5 bx0 bx1 bx2 bx3 bx4 bx5 bx6 bx7
                go_wp2_with fail
                exact ⟨rfl, .tuple #[], by simp [results, Tryz.results132, go_sem], rfl, s7, hfin.out, hp7⟩
            | false =>
              rw [if_neg (by decide)] at hr5
              clear hde
              by_cases hte : to = ⟨#[]⟩
              · rw [if_pos hte] at hr5
                subst hte
                subst hr5
                replace hst6 := Lib.hid hst6
                clear hb6 hbx6
                go_wp2_with fail
                exact ⟨rfl, .tuple #[], by simp [results, Tryz.results132, go_sem], rfl, ({ s with calls := s.calls.set s.pos (⟨(.slice (some ⟨g6, 0, none⟩) n6 cap6), row.l ++ [i]⟩ : CRow) }), hst6.out, hps.out⟩
              · rw [if_neg hte] at hr5
                have htn := emp_ne hte
                have han := answer_c k nm to false ea ec e ba bc body la lc els pos (St.In.below (fun b o v hb hc => (World.cell?_of_block (w := w) (a := ⟨b, o, none⟩) (hst6.below.block b hb)).trans hc) _ hinS.out) hst6.lk
                have han2 : Hid (Calls Tryz.prog 167 #[.pointer (some ⟨c.lb, 0, none⟩), .agg #[.int .u8 k, .string nm, .string to, .bool false, .slice ea e.length ec, .slice ba body.length bc, .slice la els.length lc, .int .i64 pos]] w6 (PostS c (({ s with calls := s.calls.set s.pos (⟨(.slice (some ⟨g6, 0, none⟩) n6 cap6), row.l ++ [i]⟩ : CRow) })) w6 (match answerK c.D s.kn to pos with | .error q => .error q | .ok _ => .ok ((({ s with calls := s.calls.set s.pos (⟨(.slice (some ⟨g6, 0, none⟩) n6 cap6), row.l ++ [i]⟩ : CRow) })) : Ls).ps))) := Lib.hid han
                generalize answerK c.D s.kn to pos = q7 at han2 hr5
                replace hst6 := Lib.hid hst6
                replace hr5 := Lib.hid hr5
                clear hb6 hbx6 hte han
                go_wp2_with fail
                refine han2.out.mono ?_
                intro e7 w7 hP
                cases q7 with
                | error p =>
                  obtain ⟨rfl, hb7⟩ := hP
                  have hr6 := hr5.out
                  simp only at hr6
                  subst hr6
                  exact ⟨rfl, rfl, hst6.out.below.trans hb7⟩
                | ok _ =>
                  obtain ⟨rfl, s7, hs7, hp7⟩ := hP
                  have hr6 := hr5.out
                  simp only at hr6
                  subst hr6
                  have hfin := Lib.hid (hst6.out.trans hs7)
                  clear hs7 hst6 han2 bx0 bx1 bx2 bx3 bx4 bx5 bx6 bx7
                  go_wp2_with fail
                  exact ⟨rfl, .tuple #[], by simp [results, Tryz.results132, go_sem], rfl, s7, hfin.out, by rw [hp7, hps.out]⟩
    · have hpl0 : ((pl : Int) == (e.length : Int)) = false := by
        rw [beq_eq_false_iff_ne]; omega
      rw [if_pos hpl] at hr2
      subst hr2
      have hbc := Lib.hid (fun m => hs1.out.below.trans (below_drewN _ (w.alloc (.cells #[.int .u8 k, .string nm, .string to, .bool new, .slice ea e.length ec, .slice ba body.length bc, .slice la els.length lc, .int .i64 pos] 60)) m))
      clear hpl
      go_wp2_with fail
      go_quiet (fail)
      have hbxq := hbxd.out nq
      have hfin := Lib.hid (hbc.out nq)
      obtain ⟨V, hV⟩ : ∃ V, (w.alloc (.cells #[.int .u8 k, .string nm, .string to, .bool new, .slice ea e.length ec, .slice ba body.length bc, .slice la els.length lc, .int .i64 pos] 60)).drewN nq = V := ⟨_, rfl⟩
      rw [hV] at hbxq hfin
      have g7 := blk_cell hbxq (j := 7) rfl
      clear hbxd hbc hbxq c0 d3 bx0 bx1 bx2 bx3 bx4 bx5 bx6 bx7
      simp only [hV]
      clear hV
      go_wp2_with fail
      refine (hR.out _ _).mono ?_
      rintro e7 w7 ⟨rfl, rfl⟩
      exact ⟨rfl, rfl, hfin.out⟩
end Go.Proofs.YtpcdlneompnhlaaGreatDoor.Ty
