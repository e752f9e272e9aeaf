/- Walks of tree.fitsDecl. Conditions: the package's tables hold their lists. -/
import Derived.Test.YtolmhcdcfnoicaaDoorTrI
namespace Go.Proofs.YtolmhcdcfnoicaaDoor.Tr
open Go Go.RowKit Go.Shelf
open Go.Proofs.YtolmhcdcfnoicaaDoor.Lx Go.Proofs.YtolmhcdcfnoicaaDoor.Rg

/-- what a Kind of declarations has -/
def deLeast (k : Int) : Int := if k = 1 then -9223372036854775808 else if k = 2 then 1 else 0
def deMost (k : Int) : Int := if k = 1 then 9223372036854775807 else if k = 2 then 1024 else 0
def deParams (k : Int) : Int := if k = 4 then 8 else 0
def deBody (k : Int) : Bool := k == 4 || k == 5
def deVals : Array Value := ((List.range 6).flatMap fun (i : Nat) => [Value.int .i64 (deLeast (i : Int)), .int .i64 (deMost (i : Int)), .int .i64 (deParams (i : Int)), .bool (deBody (i : Int))]).toArray
def DeTab (w : World) : Prop := ∃ t fr, w.heap[0]? = some (.cells deVals t fr)
theorem DeTab.below {w w' : World} (h : DeTab w) (hb : Below w.heap.size w w') : DeTab w' := by
  obtain ⟨t, fr, hg⟩ := h
  exact ⟨t, fr, (hb.block _ (Array.getElem?_eq_some_iff.1 hg).1).trans hg⟩
theorem deTab_at {w : World} (h : DeTab w) (k : Int) (h0 : 0 ≤ k) (h1 : k ≤ 5) :
    w.cell? ⟨0, k.toNat * 4, none⟩ = some (.int .i64 (deLeast k)) ∧ w.cell? ⟨0, k.toNat * 4 + 1, none⟩ = some (.int .i64 (deMost k)) ∧ w.cell? ⟨0, k.toNat * 4 + 2, none⟩ = some (.int .i64 (deParams k)) ∧
    w.cell? ⟨0, k.toNat * 4 + 3, none⟩ = some (.bool (deBody k)) := by
  obtain ⟨t, fr, hg⟩ := h
  obtain ⟨m, rfl⟩ : ∃ m : Nat, k = m := ⟨k.toNat, by omega⟩
  rw [Int.toNat_natCast]
  have hc : ∀ j, w.cell? ⟨0, j, none⟩ = deVals[j]? := fun j => by simp [World.cell?, hg]
  rw [hc, hc, hc, hc]
  have hm : m < 6 := by omega
  clear hg hc h0 h1
  have hd : m = 0 ∨ m = 1 ∨ m = 2 ∨ m = 3 ∨ m = 4 ∨ m = 5 := by omega
  rcases hd with rfl | rfl | rfl | rfl | rfl | rfl <;> exact ⟨rfl, rfl, rfl, rfl⟩

/-- are texts all names? -/
def nmes (ps : List ByteArray) : Bool := ps.all fun s => nme s.data.toList
theorem names_any (ps : List ByteArray) (a : Option Addr) (cap : Nat) (V : World) (hrow : RowAt V (fun _ => True) a cap ps.length (strCells ps)) (hin : ∀ p ∈ ps, p.size ≤ maxLen) (hsg : SignsIn V) :
    Calls Tryd.prog 52 #[.func (.func 68) #[] #[.pointer (some ⟨V.heap.size, 0, none⟩)], .func (.func 23) #[] #[]] (V.alloc (.cells #[.slice a ps.length cap] 35)) fun e w' =>
      e = .returned (.bool (nmes ps)) ∧ Below V.heap.size V w' := by
  obtain ⟨W0, hW0⟩ : ∃ W0, V.alloc (.cells #[.slice a ps.length cap] 35) = W0 := ⟨_, rfl⟩
  have hb0 : Below V.heap.size V W0 := by rw [← hW0]; exact (Below.refl _ _).alloc (Nat.le_refl _) _
  have hs0 : W0.heap.size = V.heap.size + 1 := by rw [← hW0]; simp
  have hc0 : Cel V V.heap.size (.slice a ps.length cap) W0 := by rw [← hW0]; exact Cel.new V V _ _
  rw [hW0]
  refine (callsIn_wide.1 (all_str 1 68 23 #[.pointer (some ⟨V.heap.size, 0, none⟩)] (enters_of Tryd.func68 (by kernel_rfl) rfl) (enters_of Tryd.func23 (by kernel_rfl) rfl) W0 ps (fun s => nme s.data.toList)
    (fun l J Jx W hb hsW hY hJa hJ0 => values1_str_in l (1 - 1) V.heap.size ps.length ps a cap J Jx W (hc0.below hb).cell (hrow.below (Kps.of_below (hb0.trans (hb.mono (by omega))))) hin (Nat.le_refl _) hY hJ0)
    (fun x W hb hx => tname_any x W hx (hsg.below hsg.lt (hb0.trans (hb.mono (by omega))))))).mono ?_
  rintro e w' ⟨rfl, hb⟩
  exact ⟨rfl, hb0.trans (hb.mono (by omega))⟩

def fitD (d : De) : Bool := decide (1 ≤ d.kind) && decide (d.kind ≤ 5) && (nme d.name.data.toList && decide (deLeast d.kind ≤ d.n) && decide (d.n ≤ deMost d.kind) && decide ((d.params.length : Int) ≤ deParams d.kind) && nmes d.params && (deBody d.kind || decide (d.body.length = 0)))
theorem fitD_eq (k : Int) (nm : ByteArray) (n : Int) (pa : Option Addr) (pcap : Nat) (params : List ByteArray) (ba : Option Addr) (bcap : Nat) (body : List St) (pos : Int) :
    fitD ⟨k, nm, n, pa, pcap, params, ba, bcap, body, pos⟩ = (decide (1 ≤ k) && decide (k ≤ 5) && (nme nm.data.toList && decide (deLeast k ≤ n) && decide (n ≤ deMost k) && decide ((params.length : Int) ≤ deParams k) && nmes params && (deBody k || decide (body.length = 0)))) := rfl

set_option maxHeartbeats 1600000 in
set_option maxRecDepth 100000 in
theorem fitD_any (d : De) (w : World) (hin : De.In w (fun _ => True) d) (hsg : SignsIn w) (ht : DeTab w) :
    Calls Tryd.prog 33 #[.agg ⟨d.vals⟩] w fun e' w' => e' = .returned (.bool (fitD d)) ∧ Below w.heap.size w w' := by
  obtain ⟨k, nm, n, pa, pcap, params, ba, bcap, body, pos⟩ := d
  obtain ⟨hk, hs, hn, _, hrow, hps, _, _⟩ := hin
  simp only at hk hs hn hrow hps
  unfold U8 at hk
  show Calls Tryd.prog 33 #[.agg #[.int .u8 k, .string nm, .int .i64 n, .slice pa params.length pcap, .slice ba body.length bcap, .int .i64 pos]] w _
  by_cases h1 : k < 1
  · go_enter Tryd.func33, Tryd.ntmps33
    go_wp2_with fail
    go_ret
    exact ⟨ret_bool (by rw [fitD_eq, decide_eq_false (by omega : ¬ 1 ≤ k)]; rfl), (Below.refl _ _).alloc (Nat.le_refl _) _⟩
  · by_cases h9 : 5 < k
    · go_enter Tryd.func33, Tryd.ntmps33
      go_wp2_with fail
      go_ret
      exact ⟨ret_bool (by rw [fitD_eq, decide_eq_false (by omega : ¬ k ≤ 5), Bool.and_false]; rfl), (Below.refl _ _).alloc (Nat.le_refl _) _⟩
    · obtain ⟨c0, c1, c2, c3⟩ := deTab_at ht k (by omega) (by omega)
      have hz2 : 0 < w.heap.size := World.block_lt_of_cell? _ _ c0
      replace c0 := fun o => (World.cell?_alloc_lt w o ⟨0, k.toNat * 4, none⟩ hz2).trans c0
      replace c1 := fun o => (World.cell?_alloc_lt w o ⟨0, k.toNat * 4 + 1, none⟩ hz2).trans c1
      replace c2 := fun o => (World.cell?_alloc_lt w o ⟨0, k.toNat * 4 + 2, none⟩ hz2).trans c2
      replace c3 := fun o => (World.cell?_alloc_lt w o ⟨0, k.toNat * 4 + 3, none⟩ hz2).trans c3
      have hg : 3 < w.heap.size := hsg.lt
      have hcall := fun W h => tname_any nm W hs h
      have hnames := fun V (h : Below w.heap.size w V) => names_any params pa pcap V (hrow.below (Kps.of_below h)) hps (hsg.below hg h)
      have HD := Lib.hid (fitD_eq k nm n pa pcap params ba bcap body pos)
      rw [decide_eq_true (by omega : 1 ≤ k), decide_eq_true (by omega : k ≤ 5)] at HD
      generalize deLeast k = xl at *
      generalize deMost k = xm at *
      generalize deParams k = xp at *
      generalize deBody k = xb at *
      generalize nme nm.data.toList = f1 at *
      generalize nmes params = f2 at *
      replace hcall := Lib.hid hcall
      replace hnames := Lib.hid hnames
      have hfin : ∀ b, b = (true && true && (f1 && decide (xl ≤ n) && decide (n ≤ xm) && decide ((params.length : Int) ≤ xp) && f2 && (xb || decide (body.length = 0)))) → Ending.returned (.bool b) = .returned (.bool (fitD ⟨k, nm, n, pa, pcap, params, ba, bcap, body, pos⟩)) := fun b hb => ret_bool (hb.trans HD.out.symm)
      replace hfin := Lib.hid hfin
      clear hrow
      cases f1
      · go_enter Tryd.func33, Tryd.ntmps33
        go_wp2_with fail
        refine (hcall.out _ ((hsg.below hg (((Below.refl _ _).alloc (Nat.le_refl _) _).alloc (by simp) _)))).mono ?_
        rintro e w' ⟨rfl, hb⟩
        obtain ⟨hc, hf⟩ := bcell hb
        go_wp2_with fail
        go_ret
        exact ⟨hfin.out _ rfl, (((Below.refl _ _).alloc (Nat.le_refl _) _).alloc (by simp) _).trans (hb.mono (by simp; omega))⟩
      · go_enter Tryd.func33, Tryd.ntmps33
        go_wp2_with fail
        refine (hcall.out _ ((hsg.below hg (((Below.refl _ _).alloc (Nat.le_refl _) _).alloc (by simp) _)))).mono ?_
        rintro e w' ⟨rfl, hb⟩
        obtain ⟨hc, hf⟩ := bcell hb
        have hbw : Below w.heap.size w w' := ((((Below.refl _ _).alloc (Nat.le_refl _) _).alloc (by simp) _).trans (hb.mono (by simp; omega)))
        have hz := hb.size
        simp only [World.size_alloc] at hz
        replace hb := Lib.hid hb
        replace hbw := Lib.hid hbw
        go_wp2_with (first
          | (go_at_call 53; refine (values_str_any _ _ _ _).mono ?_; rintro e w2 ⟨rfl, rfl⟩)
          | (go_at_call 52; refine (hnames.out _ hbw.out).mono ?_; rintro e w3 ⟨rfl, hb3⟩; have hl3 : ∀ b o, b < w.heap.size + 2 → w3.cell? ⟨b, o, none⟩ = w'.cell? ⟨b, o, none⟩ := fun b o h => hb3.cell (p := ⟨b, o, none⟩) (by simp only; omega); replace hb3 := Lib.hid hb3))
        all_goals
          go_ret
          refine ⟨hfin.out _ ?_, ?_⟩
          · clear hc hf c0 c1 c2 c3
            try clear hl3
            rw [Bool.eq_iff_iff]
            first
              | (simp [*]; done)
              | (simp [*]; intros; exfalso; omega)
          · first
              | exact hbw.out.trans (hb3.out.mono (by omega))
              | exact hbw.out
end Go.Proofs.YtolmhcdcfnoicaaDoor.Tr
