/- A class of worlds as a type of its own: all that a world has is as it was; the lexical walk of a region in any class. Conditions: none. -/
import Derived.Deep.Quiet
import Derived.Test.YthiiahlgncngoaaDoorRRJaI
import Derived.Deep.Cut
import Derived.OrdersHeld
set_option maxHeartbeats 16000000
set_option maxRecDepth 100000
namespace Go.Proofs.YthiiahlgncngoaaDoorRR.Pa
open Go Go.RowKit
/-- the worlds in which all that a world has is as it was -/
structure UpW (w : World) where
 val : World
 ok : Below w.heap.size w val
instance (w : World) : Inhabited (UpW w) := ⟨⟨w, Below.refl _ _⟩⟩
/-- the lexical walk of a region in any class of worlds, its operations written out -/
theorem Qp {P : Program} {id : Nat} {Q : Exit → Act → World → Prop} {a : Act} {w : World} {l : List Oper} {C : World → Prop} (hm : P.follows .mixedOrders = true) (hB : Region.lexB .any l.toArray = true) (hC : C w.drew)
 (h : wpQuiet P l.toArray C (fun a' => ∀ w', C w' → Q .normal a' w') l a) : (Code.region id l.toArray true).wp P Q a w :=
 wp_region_quiet (C := C) hm hB hC (by simpa using h)
end Go.Proofs.YthiiahlgncngoaaDoorRR.Pa
namespace Go.Proofs.YthiiahlgncngoaaDoorRR.Cd
open Go Go.RowKit
open Go.Proofs.YthiiahlgncngoaaDoorRR.Lx Go.Proofs.YthiiahlgncngoaaDoorRR.Tr Go.Proofs.YthiiahlgncngoaaDoorRR.Pa
theorem row_none (W : World) (S : Nat → Prop) : RowAt W S none 0 0 [] := ⟨Nat.le_refl _, by unfold maxLen; omega, fun _ => rfl, fun j u hj => by simp at hj⟩
theorem row_blk {W : World} {S : Nat → Prop} {b : Nat} {vs : List Value} {T : TypeId} {fr : Nat × Nat} (n : Nat) (h : W.heap[b]? = some (.cells ⟨vs⟩ T fr)) (hn : n ≤ 100000) (hS : S b) : RowAt W S (some ⟨b, 0, none⟩) n n vs :=
 ⟨Nat.le_refl _, by unfold maxLen; omega, fun h => (by cases h), fun j u hu => ⟨b, 0, rfl, hS, by rw [Nat.zero_add]; simp only [World.cell?, h]; simpa using hu⟩⟩
theorem row_own {B : Nat} {e : TypeId} {c n : Nat} {v : Value} {xs : List Value} {w : World} (h : w.ownsRow B e c v n xs) : ∃ a cap, v = .slice a n cap ∧ RowAt w (fun b => B ≤ b) a cap n xs := by
 obtain ⟨hlen, ⟨rfl, h0⟩ | ⟨g, cap, cur, rfl, hB, hg, h1, h2, h3, h4⟩⟩ := h
 · subst h0
   have : xs = [] := List.eq_nil_of_length_eq_zero (by simpa using hlen)
   subst this
   exact ⟨none, 0, rfl, row_none _ _⟩
 · refine ⟨_, cap, rfl, ⟨h1, h2, fun h => (by cases h), fun j u hj => ⟨g, 0, rfl, hB, ?_⟩⟩⟩
   have hj2 : j < n * c := by rw [← hlen]; exact (List.getElem?_eq_some_iff.1 hj).1
   rw [Nat.zero_add]
   rw [← h4, List.getElem?_take, if_pos hj2] at hj
   simp only [World.cell?, hg]
   simpa using hj
theorem Qj {w : World} {b o : Nat} {v : Value} (h : w.cell? ⟨b, o, none⟩ = some v) : ∀ U : UpW w, U.val.cell? ⟨b, o, none⟩ = some v := fun U => Qe U.ok h
/-- a call of a region's: what it answers, and that all is as it was -/
theorem Qq {w : World} {f : FuncId} {args : Array Value} {v : Value} (h : ∀ V, Below w.heap.size w V → Calls Tryd.prog f args V fun e w' => e = .returned v ∧ Below V.heap.size V w') :
 ∀ U : UpW w, Calls Tryd.prog f args U.val fun e w' => e = .returned v ∧ ∃ U' : UpW w, w' = U'.val := fun U =>
 (h U.val U.ok).mono fun _ w' h => ⟨h.1, ⟨w', U.ok.trans (h.2.mono U.ok.size)⟩, rfl⟩
theorem Zm {W : World} {bx : Nat} {f : Fn} (h : ∀ j u, f.vals[j]? = some u → W.cell? ⟨bx, j, none⟩ = some u) : W.cell? ⟨bx, 0, none⟩ = some (.string f.name) ∧ W.cell? ⟨bx, 1, none⟩ = some (.bool f.thread) ∧ W.cell? ⟨bx, 2, none⟩ = some (.int .i64 f.params) ∧ W.cell? ⟨bx, 3, none⟩ = some (.int .i64 f.regs) ∧ W.cell? ⟨bx, 4, none⟩ = some (.slice f.ca f.code.length f.ccap) := ⟨h _ _ rfl, h _ _ rfl, h _ _ rfl, h _ _ rfl, h _ _ rfl⟩
/-- three boxes: a program, a Fun, an instruction -/
structure Bx3 (w W : World) (p : Pg) (f : Fn) (i : Ins) : Prop where
 pc : ∀ j u, p.vals[j]? = some u → W.cell? ⟨w.heap.size, j, none⟩ = some u
 fc : ∀ j u, f.vals[j]? = some u → W.cell? ⟨w.heap.size + 1, j, none⟩ = some u
 ic : ∀ j u, i.vals[j]? = some u → W.cell? ⟨w.heap.size + 1 + 1, j, none⟩ = some u
theorem Bx3.new (w : World) (p : Pg) (f : Fn) (i : Ins) : Bx3 w (((w.alloc (.cells ⟨p.vals⟩ 26)).alloc (.cells ⟨f.vals⟩ 50)).alloc (.cells ⟨i.vals⟩ 44)) p f i := by
 obtain ⟨h0, h1, h2⟩ := ins3 w (.cells ⟨p.vals⟩ 26) (.cells ⟨f.vals⟩ 50) (.cells ⟨i.vals⟩ 44)
 exact ⟨Q0 h0, Q0 h1, Q0 h2⟩
theorem Bx3.below {w W V : World} {p : Pg} {f : Fn} {i : Ins} (h : Bx3 w W p f i) (hb : Below W.heap.size W V) : Bx3 w V p f i := ⟨fun j u hj => Qe hb (h.pc j u hj), fun j u hj => Qe hb (h.fc j u hj), fun j u hj => Qe hb (h.ic j u hj)⟩
theorem Xt {w : World} {i : Ins} (h : RowAt w (fun _ => True) i.aa i.acap i.args.length (Qc i.args)) : RowAt w (fun _ => True) (Q3 i).aa (Q3 i).acap (Q3 i).args.length (Qc (Q3 i).args) := by
 unfold Q3
 by_cases h10 : i.op = 10
 · simp only [if_pos h10]; exact h
 · simp only [if_neg h10]; exact row_none _ _
theorem Xl (p : Pg) (f : Fn) (i : Ins) : Zu p f i = (Zf i.op && Zi i (Q3 i) && ((rdP i ++ if hasR i.op then [i.r] else []).all fun r => inP r f.regs) && opN p f i) := rfl
theorem rmay_unknown (p : Pg) (f : Fn) (i : Ins) (w : World) (hu : U8 i.op) (h : Zf i.op = false) :
 Calls Tryd.prog 47 #[p.val, f.val, i.val] w fun e w' => e = .returned (.bool (Zu p f i)) ∧ Below w.heap.size w w' := by
 have hm : Zu p f i = false := by rw [Xl, h]; rfl
 rw [hm]
 clear hm
 unfold U8 at hu
 have hst := Lh (Qs w (.cells ⟨p.vals⟩ 26) (.cells ⟨f.vals⟩ 50) (.cells ⟨i.vals⟩ 44))
 have hbx := Lh (Bx3.new w p f i)
 by_cases h1 : i.op < 1
 · go_enter Tryd.func47, Tryd.ntmps47
   go_upto_region 1 with fail
   go_quiet (fail)
   go_wp2_with fail
   go_ret
   exact ⟨rfl, hst.out.trans ⟨rfl, rfl, rfl, Nat.le_refl _, fun _ _ => rfl⟩⟩
 · have h13 : 13 < i.op := by simp [Zf] at h; omega
   go_enter Tryd.func47, Tryd.ntmps47
   go_upto_region 1 with fail
   go_quiet (fail)
   go_wp2_with fail
   go_ret
   exact ⟨rfl, hst.out.trans ⟨rfl, rfl, rfl, Nat.le_refl _, fun _ _ => rfl⟩⟩
theorem rmay_notkept (p : Pg) (f : Fn) (i : Ins) (w : World) (hri : RowAt w (fun _ => True) i.aa i.acap i.args.length (Qc i.args)) (h : Zf i.op = true) (hS : Zi i (Q3 i) = false) :
 Calls Tryd.prog 47 #[p.val, f.val, i.val] w fun e w' => e = .returned (.bool (Zu p f i)) ∧ Below w.heap.size w w' := by
 have hm : Zu p f i = false := by rw [Xl, hS]; simp
 rw [hm]
 clear hm
 have hst := Lh (Qs w (.cells ⟨p.vals⟩ 26) (.cells ⟨f.vals⟩ 50) (.cells ⟨i.vals⟩ 44))
 have hbx := Lh (Bx3.new w p f i)
 have hk1 : 1 ≤ i.op ∧ i.op ≤ 13 := by simpa [Zf] using h
 have n1 : ¬ i.op < 1 := by omega
 have n2 : ¬ 13 < i.op := by omega
 have hsm := fun (V : World) (hb : Below w.heap.size w V) => Zj i (Q3 i) V (hri.below (Kps.of_below hb)) (Xt (hri.below (Kps.of_below hb)))
 rw [hS] at hsm
 replace hsm := Lh hsm
 have hkp := Lh (fun (V : World) => Xu i V h)
 clear hri h hS
 go_enter Tryd.func47, Tryd.ntmps47
 go_upto_region 1 with fail
 generalize hW0 : ((w.alloc (.cells ⟨p.vals⟩ 26)).alloc (.cells ⟨f.vals⟩ 50)).alloc (.cells ⟨i.vals⟩ 44) = W0 at hbx hst
 obtain ⟨r0, r1, r2, r3, r4, r5⟩ := Qm hbx.out.ic
 have u0 := Qj r0
 have u1 := Qj r1
 have u2 := Qj r2
 have u3 := Qj r3
 have u4 := Qj r4
 have u5 := Qj r5
 have s1 := Lh (Qq (w := W0) (f := 75) (args := #[i.val]) (fun V hb => hkp.out V))
 have s2 := Lh (Qq (w := W0) (f := 41) (args := #[i.val, (Q3 i).val]) (fun V hb => hsm.out V (hst.out.trans (hb.mono hst.out.size))))
 clear r0 r1 r2 r3 r4 r5 hkp hsm
 refine Qp (C := fun V => ∃ U : UpW W0, V = U.val) (by kernel_rfl) (by kernel_rfl) ⟨⟨W0.drew, (Below.refl _ _).drew⟩, by show _ = W0.drew; rw [← hW0]; rfl⟩ ?_
 iterate 11 (quiet_step (fail))
 quiet_step (exact s1.out _)
 quiet_step (exact s2.out _)
 iterate 2 (quiet_step (fail))
 refine wpQuiet_nil ?_
 rintro _ ⟨U, rfl⟩
 have hbU := Lh (hst.out.trans (U.ok.mono hst.out.size))
 go_wp2_with fail
 go_ret
 exact ⟨rfl, hbU.out⟩
theorem Xz {l : List Int} {j : Nat} {x : Int} {g : Int → Bool} (hx : l[j]? = some x) (h : (l.take j).all g = true) (hg : g x = true) : (l.take (j + 1)).all g = true := by
 rw [List.take_add_one, hx]; simp [List.all_append, h, hg]
theorem X5 {l : List Int} {j : Nat} {x : Int} {g : Int → Bool} (hx : l[j]? = some x) (hg : g x = false) : l.all g = false := by
 rw [Bool.eq_false_iff]; intro h
 have := List.all_eq_true.1 h x (List.mem_of_getElem? hx)
 rw [hg] at this; cases this
theorem nums_ap (l : List Int) (x : Int) : Qc (l ++ [x]) = Qc l ++ [.int .i64 x] := by unfold Qc; rw [List.map_append]; rfl
end Go.Proofs.YthiiahlgncngoaaDoorRR.Cd
