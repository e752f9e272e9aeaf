/- Words for the walks of methods that read. Conditions: none. · Lists that a call of its own builds by append: what they hold, and where it lies. Conditions: none. · Lists that methods that read build by append. Conditions: none. -/
import Derived.Test.YtpcdlneompnhlaaGreatDoorPaV
import Derived.Test.YtpcdlneompnhlaaGreatDoorPaJ
import Derived.Test.YtpcdlneompnhlaaGreatDoorGrAB
import Derived.RangeFuncRecord
import Derived.Deep.RegionLawGrows
import Derived.Maps.AppendAt
namespace Go.Proofs.YtpcdlneompnhlaaGreatDoor.Pa
open Go Go.RowKit
open Go.Proofs.YtpcdlneompnhlaaGreatDoor.Lx Go.Proofs.YtpcdlneompnhlaaGreatDoor.Tr

theorem Fr.factX {c : Rc} {w0 W w' : World} {i j : Nat} {bs : List (Nat × Obj)} {fs : List Fact} {x : Ex} {v : Value} (h : Fr c w0 i bs fs W) (hre : RE c.rb W w') (hR : Rd c j w') (hV : VX (fun b => W.heap.size ≤ b) x v w') : ∃ ex, v = .agg ⟨ex.vals⟩ ∧ ea ex = x ∧ Fr c w0 j bs (Fact.X ex :: fs) w' := by
  obtain ⟨ex, rfl, hin, rfl⟩ := hV
  exact ⟨ex, rfl, rfl, h.fact hre hR (Fact.X ex) hin⟩
theorem cells5 {W : World} {b : Nat} {a0 a1 a2 a3 a4 : Value} {T : TypeId} (h : W.heap[b]? = some (.cells #[a0, a1, a2, a3, a4] T (0, 0))) :
    W.cell? ⟨b, 0, none⟩ = some a0 ∧ W.cell? ⟨b, 1, none⟩ = some a1 ∧ W.cell? ⟨b, 2, none⟩ = some a2 ∧ W.cell? ⟨b, 3, none⟩ = some a3 ∧ W.cell? ⟨b, 4, none⟩ = some a4 ∧
      W.frozen? ⟨b, 0, none⟩ = false ∧ W.frozen? ⟨b, 1, none⟩ = false ∧ W.frozen? ⟨b, 2, none⟩ = false ∧ W.frozen? ⟨b, 3, none⟩ = false ∧ W.frozen? ⟨b, 4, none⟩ = false :=
  ⟨blk_cell h rfl, blk_cell h rfl, blk_cell h rfl, blk_cell h rfl, blk_cell h rfl, blk_free h 0, blk_free h 1, blk_free h 2, blk_free h 3, blk_free h 4⟩
theorem Fr.swap3 {c : Rc} {w0 W : World} {i : Nat} {x y z : Nat × Obj} {bs : List (Nat × Obj)} {fs : List Fact} (h : Fr c w0 i (x :: y :: z :: bs) fs W) : Fr c w0 i (z :: x :: y :: bs) fs W := by
  have hm : ∀ u, u ∈ z :: x :: y :: bs ↔ u ∈ x :: y :: z :: bs := fun u => by simp only [List.mem_cons]; constructor <;> (rintro (h | h | h | h) <;> simp [h])
  refine ⟨h.rd, h.lo, h.re, fun u hu => h.bl u ((hm u).1 hu), ?_, fun f hf => f.mono (fun b hb => ⟨hb.1, hb.2.1, fun u hu => hb.2.2 u ((hm u).1 hu)⟩) (h.ft f hf)⟩
  have := h.nd
  simp only [List.map_cons, List.nodup_cons, List.mem_cons, not_or] at this ⊢
  obtain ⟨⟨h1, h2, h3⟩, ⟨h4, h5⟩, h6, h7⟩ := this
  exact ⟨⟨fun e => h2 e.symm, fun e => h4 e.symm, h6⟩, ⟨h1, h3⟩, h5, h7⟩

theorem cells8 {W : World} {b : Nat} {a0 a1 a2 a3 a4 a5 a6 a7 : Value} {T : TypeId} (h : W.heap[b]? = some (.cells #[a0, a1, a2, a3, a4, a5, a6, a7] T (0, 0))) :
    W.cell? ⟨b, 0, none⟩ = some a0 ∧ W.cell? ⟨b, 1, none⟩ = some a1 ∧ W.cell? ⟨b, 2, none⟩ = some a2 ∧ W.cell? ⟨b, 3, none⟩ = some a3 ∧ W.cell? ⟨b, 4, none⟩ = some a4 ∧ W.cell? ⟨b, 5, none⟩ = some a5 ∧ W.cell? ⟨b, 6, none⟩ = some a6 ∧ W.cell? ⟨b, 7, none⟩ = some a7 ∧
      W.frozen? ⟨b, 0, none⟩ = false ∧ W.frozen? ⟨b, 1, none⟩ = false ∧ W.frozen? ⟨b, 2, none⟩ = false ∧ W.frozen? ⟨b, 3, none⟩ = false ∧ W.frozen? ⟨b, 4, none⟩ = false ∧ W.frozen? ⟨b, 5, none⟩ = false ∧ W.frozen? ⟨b, 6, none⟩ = false ∧ W.frozen? ⟨b, 7, none⟩ = false :=
  ⟨blk_cell h rfl, blk_cell h rfl, blk_cell h rfl, blk_cell h rfl, blk_cell h rfl, blk_cell h rfl, blk_cell h rfl, blk_cell h rfl, blk_free h 0, blk_free h 1, blk_free h 2, blk_free h 3, blk_free h 4, blk_free h 5, blk_free h 6, blk_free h 7⟩
theorem cells6 {W : World} {b : Nat} {a0 a1 a2 a3 a4 a5 : Value} {T : TypeId} (h : W.heap[b]? = some (.cells #[a0, a1, a2, a3, a4, a5] T (0, 0))) :
    W.cell? ⟨b, 0, none⟩ = some a0 ∧ W.cell? ⟨b, 1, none⟩ = some a1 ∧ W.cell? ⟨b, 2, none⟩ = some a2 ∧ W.cell? ⟨b, 3, none⟩ = some a3 ∧ W.cell? ⟨b, 4, none⟩ = some a4 ∧ W.cell? ⟨b, 5, none⟩ = some a5 ∧
      W.frozen? ⟨b, 0, none⟩ = false ∧ W.frozen? ⟨b, 1, none⟩ = false ∧ W.frozen? ⟨b, 2, none⟩ = false ∧ W.frozen? ⟨b, 3, none⟩ = false ∧ W.frozen? ⟨b, 4, none⟩ = false ∧ W.frozen? ⟨b, 5, none⟩ = false :=
  ⟨blk_cell h rfl, blk_cell h rfl, blk_cell h rfl, blk_cell h rfl, blk_cell h rfl, blk_cell h rfl, blk_free h 0, blk_free h 1, blk_free h 2, blk_free h 3, blk_free h 4, blk_free h 5⟩
/-- the contract of expr -/
def XE : Prop := ∀ (c : Rc) (i : Nat) (w : World), Rd c i w → Calls Tryz.prog 149 #[.pointer (some ⟨c.rb, 0, none⟩)] w (Post c (VX (fun b => w.heap.size ≤ b)) w (exprR c.l i))
theorem Fr.tup {c : Rc} {w0 W w' : World} {i j : Nat} {bs : List (Nat × Obj)} {fs : List Fact} (h : Fr c w0 i bs fs W) (hre : RE c.rb W w') (hR : Rd c j w') : Fr c w0 j bs fs w' := h.call hre hR
/-- a statement's parts lie where the facts say -/
theorem stE_In {W : World} {S : Nat → Prop} {k : Int} {nm to : ByteArray} {new : Bool} {pos : Int} {ea : Option Addr} {ec : Nat} {e : List Ex} {ba : Option Addr} {bc : Nat} {b : List St} {la : Option Addr} {lc : Nat} {l : List St} (hk : U8 k) (hn : nm.size ≤ maxLen) (ht : to.size ≤ maxLen) (hp : I64 pos)
    (he : (Fact.Xs e ea ec).P S W) (hb : (Fact.Ts b ba bc).P S W) (hl : (Fact.Ts l la lc).P S W) : St.In W S (.mk k nm to new ea ec e ba bc b la lc l pos) := by
  unfold St.In
  exact ⟨hk, hn, ht, hp, he.1, he.2, hb.1, hb.2, hl.1, hl.2⟩
theorem ts_nil (S : Nat → Prop) (W : World) : (Fact.Ts [] none 0).P S W := ⟨row_nil _ _, by unfold St.InL; trivial⟩
theorem xs_nil (S : Nat → Prop) (W : World) : (Fact.Xs [] none 0).P S W := ⟨row_nil _ _, by unfold Ex.InL; trivial⟩
theorem Res.bind_bad {α β : Type} (p : Int) (g : α → Nat → Res β) : (Res.bad p : Res α).bind g = .bad p := rfl
theorem Res.bind_ok' {α β : Type} (x : α) (j : Nat) (g : α → Nat → Res β) : (Res.ok x j).bind g = g x j := rfl
theorem sz_alloc (w : World) (o : Obj) : (w.alloc o).heap.size = w.heap.size + 1 := by simp
theorem Fr.factT {c : Rc} {w0 W w' : World} {i j : Nat} {bs : List (Nat × Obj)} {fs : List Fact} {x : St} {v : Value} (h : Fr c w0 i bs fs W) (hre : RE c.rb W w') (hR : Rd c j w') (hV : VT (fun b => W.heap.size ≤ b) x v w') : ∃ ex, v = .agg ⟨ex.vals⟩ ∧ sa ex = x ∧ Fr c w0 j bs (Fact.T ex :: fs) w' := by
  obtain ⟨ex, rfl, hin, rfl⟩ := hV
  exact ⟨ex, rfl, rfl, h.fact hre hR (Fact.T ex) hin⟩
theorem Fr.factD {c : Rc} {w0 W w' : World} {i j : Nat} {bs : List (Nat × Obj)} {fs : List Fact} {x : De} {v : Value} (h : Fr c w0 i bs fs W) (hre : RE c.rb W w') (hR : Rd c j w') (hV : VD (fun b => W.heap.size ≤ b) x v w') : ∃ ex, v = .agg ⟨ex.vals⟩ ∧ da ex = x ∧ Fr c w0 j bs (Fact.D ex :: fs) w' := by
  obtain ⟨ex, rfl, hin, rfl⟩ := hV
  exact ⟨ex, rfl, rfl, h.fact hre hR (Fact.D ex) hin⟩
theorem Fr.factXs {c : Rc} {w0 W w' : World} {i j : Nat} {bs : List (Nat × Obj)} {fs : List Fact} {x : List Ex} {v : Value} (h : Fr c w0 i bs fs W) (hre : RE c.rb W w') (hR : Rd c j w') (hV : VXs (fun b => W.heap.size ≤ b) x v w') : ∃ l a cap, v = .slice a l.length cap ∧ eaL l = x ∧ Fr c w0 j bs (Fact.Xs l a cap :: fs) w' := by
  obtain ⟨l, a, cap, rfl, h1, h2, rfl⟩ := hV
  exact ⟨l, a, cap, rfl, rfl, h.fact hre hR (Fact.Xs l a cap) ⟨h1, h2⟩⟩
theorem Fr.factTs {c : Rc} {w0 W w' : World} {i j : Nat} {bs : List (Nat × Obj)} {fs : List Fact} {x : List St} {v : Value} (h : Fr c w0 i bs fs W) (hre : RE c.rb W w') (hR : Rd c j w') (hV : VTs (fun b => W.heap.size ≤ b) x v w') : ∃ l a cap, v = .slice a l.length cap ∧ saL l = x ∧ Fr c w0 j bs (Fact.Ts l a cap :: fs) w' := by
  obtain ⟨l, a, cap, rfl, h1, h2, rfl⟩ := hV
  exact ⟨l, a, cap, rfl, rfl, h.fact hre hR (Fact.Ts l a cap) ⟨h1, h2⟩⟩
theorem Fr.factN {c : Rc} {w0 W w' : World} {i j : Nat} {bs : List (Nat × Obj)} {fs : List Fact} {x : List ByteArray} {v : Value} (h : Fr c w0 i bs fs W) (hre : RE c.rb W w') (hR : Rd c j w') (hV : VN (fun b => W.heap.size ≤ b) x v w') : ∃ a cap, v = .slice a x.length cap ∧ (∀ p ∈ x, p.size ≤ maxLen) ∧ Fr c w0 j bs (Fact.N x a cap :: fs) w' := by
  obtain ⟨a, cap, rfl, h1, h2⟩ := hV
  exact ⟨a, cap, rfl, h2, h.fact hre hR (Fact.N x a cap) h1⟩
theorem Fr.st8_2 {c : Rc} {w0 W : World} {i g : Nat} {a0 b0 c0 d0 e0 f0 g0 h0 : Value} {T : TypeId} {fr : Nat × Nat} {bs : List (Nat × Obj)} {fs : List Fact} (h : Fr c w0 i ((g, .cells #[a0, b0, c0, d0, e0, f0, g0, h0] T fr) :: bs) fs W) (v : Value) : Fr c w0 i ((g, .cells #[a0, b0, v, d0, e0, f0, g0, h0] T fr) :: bs) fs (W.setCell ⟨g, 2, none⟩ v) := by
  have := h.set 2 v
  simpa using this
theorem Fr.st8_3 {c : Rc} {w0 W : World} {i g : Nat} {a0 b0 c0 d0 e0 f0 g0 h0 : Value} {T : TypeId} {fr : Nat × Nat} {bs : List (Nat × Obj)} {fs : List Fact} (h : Fr c w0 i ((g, .cells #[a0, b0, c0, d0, e0, f0, g0, h0] T fr) :: bs) fs W) (v : Value) : Fr c w0 i ((g, .cells #[a0, b0, c0, v, e0, f0, g0, h0] T fr) :: bs) fs (W.setCell ⟨g, 3, none⟩ v) := by
  have := h.set 3 v
  simpa using this
theorem Fr.st8_4 {c : Rc} {w0 W : World} {i g : Nat} {a0 b0 c0 d0 e0 f0 g0 h0 : Value} {T : TypeId} {fr : Nat × Nat} {bs : List (Nat × Obj)} {fs : List Fact} (h : Fr c w0 i ((g, .cells #[a0, b0, c0, d0, e0, f0, g0, h0] T fr) :: bs) fs W) (v : Value) : Fr c w0 i ((g, .cells #[a0, b0, c0, d0, v, f0, g0, h0] T fr) :: bs) fs (W.setCell ⟨g, 4, none⟩ v) := by
  have := h.set 4 v
  simpa using this
theorem Fr.st8_5 {c : Rc} {w0 W : World} {i g : Nat} {a0 b0 c0 d0 e0 f0 g0 h0 : Value} {T : TypeId} {fr : Nat × Nat} {bs : List (Nat × Obj)} {fs : List Fact} (h : Fr c w0 i ((g, .cells #[a0, b0, c0, d0, e0, f0, g0, h0] T fr) :: bs) fs W) (v : Value) : Fr c w0 i ((g, .cells #[a0, b0, c0, d0, e0, v, g0, h0] T fr) :: bs) fs (W.setCell ⟨g, 5, none⟩ v) := by
  have := h.set 5 v
  simpa using this
theorem Fr.st8_6 {c : Rc} {w0 W : World} {i g : Nat} {a0 b0 c0 d0 e0 f0 g0 h0 : Value} {T : TypeId} {fr : Nat × Nat} {bs : List (Nat × Obj)} {fs : List Fact} (h : Fr c w0 i ((g, .cells #[a0, b0, c0, d0, e0, f0, g0, h0] T fr) :: bs) fs W) (v : Value) : Fr c w0 i ((g, .cells #[a0, b0, c0, d0, e0, f0, v, h0] T fr) :: bs) fs (W.setCell ⟨g, 6, none⟩ v) := by
  have := h.set 6 v
  simpa using this
theorem Fr.st8_7 {c : Rc} {w0 W : World} {i g : Nat} {a0 b0 c0 d0 e0 f0 g0 h0 : Value} {T : TypeId} {fr : Nat × Nat} {bs : List (Nat × Obj)} {fs : List Fact} (h : Fr c w0 i ((g, .cells #[a0, b0, c0, d0, e0, f0, g0, h0] T fr) :: bs) fs W) (v : Value) : Fr c w0 i ((g, .cells #[a0, b0, c0, d0, e0, f0, g0, v] T fr) :: bs) fs (W.setCell ⟨g, 7, none⟩ v) := by
  have := h.set 7 v
  simpa using this
theorem Fr.st6_2 {c : Rc} {w0 W : World} {i g : Nat} {a0 b0 c0 d0 e0 f0 : Value} {T : TypeId} {fr : Nat × Nat} {bs : List (Nat × Obj)} {fs : List Fact} (h : Fr c w0 i ((g, .cells #[a0, b0, c0, d0, e0, f0] T fr) :: bs) fs W) (v : Value) : Fr c w0 i ((g, .cells #[a0, b0, v, d0, e0, f0] T fr) :: bs) fs (W.setCell ⟨g, 2, none⟩ v) := by
  have := h.set 2 v
  simpa using this
theorem Fr.st6_3 {c : Rc} {w0 W : World} {i g : Nat} {a0 b0 c0 d0 e0 f0 : Value} {T : TypeId} {fr : Nat × Nat} {bs : List (Nat × Obj)} {fs : List Fact} (h : Fr c w0 i ((g, .cells #[a0, b0, c0, d0, e0, f0] T fr) :: bs) fs W) (v : Value) : Fr c w0 i ((g, .cells #[a0, b0, c0, v, e0, f0] T fr) :: bs) fs (W.setCell ⟨g, 3, none⟩ v) := by
  have := h.set 3 v
  simpa using this
theorem Fr.st6_4 {c : Rc} {w0 W : World} {i g : Nat} {a0 b0 c0 d0 e0 f0 : Value} {T : TypeId} {fr : Nat × Nat} {bs : List (Nat × Obj)} {fs : List Fact} (h : Fr c w0 i ((g, .cells #[a0, b0, c0, d0, e0, f0] T fr) :: bs) fs W) (v : Value) : Fr c w0 i ((g, .cells #[a0, b0, c0, d0, v, f0] T fr) :: bs) fs (W.setCell ⟨g, 4, none⟩ v) := by
  have := h.set 4 v
  simpa using this
theorem Fr.st6_5 {c : Rc} {w0 W : World} {i g : Nat} {a0 b0 c0 d0 e0 f0 : Value} {T : TypeId} {fr : Nat × Nat} {bs : List (Nat × Obj)} {fs : List Fact} (h : Fr c w0 i ((g, .cells #[a0, b0, c0, d0, e0, f0] T fr) :: bs) fs W) (v : Value) : Fr c w0 i ((g, .cells #[a0, b0, c0, d0, e0, v] T fr) :: bs) fs (W.setCell ⟨g, 5, none⟩ v) := by
  have := h.set 5 v
  simpa using this
theorem set8_size (W : World) (g : Nat) (a b cc d e f gg hh : Value) : ((((((((W.setCell ⟨g, 0, none⟩ a).setCell ⟨g, 1, none⟩ b).setCell ⟨g, 2, none⟩ cc).setCell ⟨g, 3, none⟩ d).setCell ⟨g, 4, none⟩ e).setCell ⟨g, 5, none⟩ f).setCell ⟨g, 6, none⟩ gg).setCell ⟨g, 7, none⟩ hh).heap.size = W.heap.size := by simp [World.setCell]
theorem bind_assoc {α β γ : Type} (r : Res α) (g : α → Nat → Res β) (h : β → Nat → Res γ) : (r.bind g).bind h = r.bind fun x j => (g x j).bind h := by cases r <;> rfl
theorem exE_In {W : World} {S : Nat → Prop} {k : Int} {nm : ByteArray} {n pos : Int} {a : Option Addr} {cap : Nat} {l : List Ex} (hk : U8 k) (hn : nm.size ≤ maxLen) (hi : I64 n) (hp : I64 pos) (h : (Fact.Xs l a cap).P S W) : Ex.In W S (.mk k nm n a cap l pos) := by
  unfold Ex.In
  exact ⟨hk, hn, hi, hp, h.1, h.2⟩
/-- the contract of list, of expressions -/
def XL : Prop := ∀ (c : Rc) (i : Nat) (w : World), Rd c i w → Calls Tryz.prog 151 #[.pointer (some ⟨c.rb, 0, none⟩), .func (.func 149) #[] #[]] w (Post c (VXs (fun b => w.heap.size ≤ b)) w (listE c.l i))
theorem stTo_In {W : World} {S : Nat → Prop} {k : Int} {nm to to' : ByteArray} {new new' : Bool} {pos : Int} {ea : Option Addr} {ec : Nat} {e : List Ex} {ba : Option Addr} {bc : Nat} {b : List St} {la : Option Addr} {lc : Nat} {l : List St} (ht : to.size ≤ maxLen)
    (h : (Fact.T (.mk k nm to' new' ea ec e ba bc b la lc l pos)).P S W) : St.In W S (.mk k nm to new ea ec e ba bc b la lc l pos) := by
  have h : St.In W S (.mk k nm to' new' ea ec e ba bc b la lc l pos) := h
  unfold St.In at h ⊢
  obtain ⟨h1, h2, _, h4⟩ := h
  exact ⟨h1, h2, ht, h4⟩
end Go.Proofs.YtpcdlneompnhlaaGreatDoor.Pa

namespace Go.Proofs.YtpcdlneompnhlaaGreatDoor.Tr
open Go Go.RowKit
open Go.Proofs.YtpcdlneompnhlaaGreatDoor.Lx

theorem RowAt.bds {w : World} {S : Nat → Prop} {a : Option Addr} {cap n : Nat} {xs : List Value} (h : RowAt w S a cap n xs) : RowAt w (fun b => S b ∧ b < w.heap.size) a cap n xs :=
  ⟨h.le, h.lim, h.nil, fun j u hj => by
    obtain ⟨b, off, ha, hs, hc⟩ := h.at_ j u hj
    exact ⟨b, off, ha, ⟨hs, World.block_lt_of_cell? _ _ hc⟩, hc⟩⟩
mutual
theorem Ex.In.bds {w : World} {S : Nat → Prop} : ∀ e, Ex.In w S e → Ex.In w (fun b => S b ∧ b < w.heap.size) e
  | .mk k nm n a cap args pos, h => by
    unfold Ex.In at h ⊢
    exact ⟨h.1, h.2.1, h.2.2.1, h.2.2.2.1, h.2.2.2.2.1.bds, Ex.InL.bds args h.2.2.2.2.2⟩
theorem Ex.InL.bds {w : World} {S : Nat → Prop} : ∀ l, Ex.InL w S l → Ex.InL w (fun b => S b ∧ b < w.heap.size) l
  | [], _ => by unfold Ex.InL; trivial
  | e :: r, h => by
    unfold Ex.InL at h ⊢
    exact ⟨Ex.In.bds e h.1, Ex.InL.bds r h.2⟩
end
mutual
theorem St.In.bds {w : World} {S : Nat → Prop} : ∀ e, St.In w S e → St.In w (fun b => S b ∧ b < w.heap.size) e
  | .mk k nm to new ea ecap e ba bcap body la lcap els pos, h => by
    unfold St.In at h ⊢
    obtain ⟨h1, h2, h3, h4, h5, h6, h7, h8, h9, h10⟩ := h
    exact ⟨h1, h2, h3, h4, h5.bds, Ex.InL.bds _ h6, h7.bds, St.InL.bds _ h8, h9.bds, St.InL.bds _ h10⟩
theorem St.InL.bds {w : World} {S : Nat → Prop} : ∀ l, St.InL w S l → St.InL w (fun b => S b ∧ b < w.heap.size) l
  | [], _ => by unfold St.InL; trivial
  | e :: r, h => by
    unfold St.InL at h ⊢
    exact ⟨St.In.bds e h.1, St.InL.bds r h.2⟩
end
theorem De.In.bds {w : World} {S : Nat → Prop} {d : De} (h : De.In w S d) : De.In w (fun b => S b ∧ b < w.heap.size) d :=
  ⟨h.1, h.2.1, h.2.2.1, h.2.2.2.1, h.2.2.2.2.1.bds, h.2.2.2.2.2.1, h.2.2.2.2.2.2.1.bds, St.InL.bds _ h.2.2.2.2.2.2.2⟩

/-- what the elements of a list are, and how they lie -/
structure Kd (α : Type) where
  vals : α → List Value
  c : Nat
  len : ∀ x, (vals x).length = c
  In : World → (Nat → Prop) → α → Prop
  below : ∀ {w w' : World} {S : Nat → Prop} {x : α}, Kps S w w' → In w S x → In w' S x
  mono : ∀ {w : World} {S S' : Nat → Prop} {x : α}, (∀ b, S b → S' b) → In w S x → In w S' x
  bds : ∀ {w : World} {S : Nat → Prop} {x : α}, In w S x → In w (fun b => S b ∧ b < w.heap.size) x
def KE : Kd Ex := ⟨Ex.vals, 5, Ex.vals_len, Ex.In, fun hb h => Ex.In.below hb _ h, fun hb h => Ex.In.mono hb _ h, fun h => Ex.In.bds _ h⟩
def KS : Kd St := ⟨St.vals, 8, St.vals_len, St.In, fun hb h => St.In.below hb _ h, fun hb h => St.In.mono hb _ h, fun h => St.In.bds _ h⟩
def KDe : Kd De := ⟨De.vals, 6, De.vals_len, De.In, fun hb h => De.In.below hb h, fun hb h => De.In.mono hb h, fun h => De.In.bds h⟩

/-- a list that a call builds: its own cells, in a block from B on; its elements' parts in other blocks from B on -/
structure Acc {α : Type} (K : Kd α) (e : TypeId) (B : Nat) (W : World) (v : Value) (l : List α) : Prop where
  own : W.ownsRow B e K.c v l.length (l.flatMap K.vals)
  inn : ∀ x ∈ l, K.In W (fun b => B ≤ b ∧ v.ownBlock ≠ some b) x
section
variable {α : Type} {K : Kd α} {e : TypeId} {B : Nat} {W W' : World} {v : Value} {l : List α}
theorem Acc.nil (K : Kd α) (e : TypeId) (B : Nat) (W : World) : Acc K e B W (.slice none 0 0) [] := ⟨World.ownsRow_nil _ _ _ _, fun x hx => by cases hx⟩
theorem Acc.upper (h : Acc K e B W v l) (hh : ∀ b, B ≤ b → b < W.heap.size → W'.heap[b]? = W.heap[b]?) : Acc K e B W' v l := by
  refine ⟨?_, fun x hx => K.mono (fun b hb => hb.1) (K.below (S := fun b => (B ≤ b ∧ v.ownBlock ≠ some b) ∧ b < W.heap.size) (fun b o u hb hc => ?_) (K.bds (h.inn x hx)))⟩
  · obtain ⟨h1, h2⟩ := h.own
    refine ⟨h1, h2.imp id fun ⟨g, cap, cur, hv, hB, hg, hr⟩ => ⟨g, cap, cur, hv, hB, (hh g hB (Array.getElem?_eq_some_iff.1 hg).1).trans hg, hr⟩⟩
  · exact (World.cell?_of_block (hh b hb.1.1 hb.2)).trans hc
theorem Acc.below (h : Acc K e B W v l) (hb : Below W.heap.size W W') : Acc K e B W' v l := h.upper fun b _ h2 => hb.block b h2
theorem Acc.alloc (h : Acc K e B W v l) (o : Obj) : Acc K e B (W.alloc o) v l := h.below ((Below.refl _ _).alloc (Nat.le_refl _) _)
theorem Acc.set (h : Acc K e B W v l) (b j : Nat) (u : Value) (hb : b < B) : Acc K e B (W.setCell ⟨b, j, none⟩ u) v l := h.upper fun k h1 _ => Below.heap_setCell _ _ _ _ (by simp only; omega)
theorem Acc.block (h : Acc K e B W v l) (k : Nat) (hk : v.ownBlock = some k) : B ≤ k ∧ k < W.heap.size := h.own.lt k hk
theorem Acc.snoc {x : α} {v' : Value} (h : Acc K e B W v l) (hx : K.In W (fun b => B ≤ b ∧ v.ownBlock ≠ some b) x) (hown : W'.ownsRow B e K.c v' (l.length + 1) (l.flatMap K.vals ++ K.vals x)) (hg : W.grownBy W' v.ownBlock)
    (ho : v'.ownBlock = v.ownBlock ∨ v'.ownBlock = some W.heap.size) : Acc K e B W' v' (l ++ [x]) := by
  have key : ∀ y, K.In W (fun b => B ≤ b ∧ v.ownBlock ≠ some b) y → K.In W' (fun b => B ≤ b ∧ v'.ownBlock ≠ some b) y := fun y hy =>
    K.mono (fun b (hb : (B ≤ b ∧ v.ownBlock ≠ some b) ∧ b < W.heap.size) => ⟨hb.1.1, fun hv => by
      rcases ho with ho | ho
      · exact hb.1.2 (ho.symm.trans hv)
      · have := Option.some.inj (ho.symm.trans hv); omega⟩) (K.below (S := fun b => (B ≤ b ∧ v.ownBlock ≠ some b) ∧ b < W.heap.size) (fun b o u hb hc => (World.cell?_of_block (hg.block b hb.2 (fun hh => hb.1.2 hh.symm))).trans hc) (K.bds hy))
  refine ⟨?_, fun y hy => ?_⟩
  · rw [List.length_append, List.flatMap_append, List.flatMap_singleton]
    exact hown
  · rcases List.mem_append.1 hy with hy | hy
    · exact key y (h.inn y hy)
    · rw [List.mem_singleton.1 hy]; exact key x hx
/-- a new element's parts, made behind it all, lie apart from the list's own cells -/
theorem Acc.fresh {x : α} (h : Acc K e B W v l) (hB : B ≤ W.heap.size) (hx : K.In W' (fun b => W.heap.size ≤ b) x) : K.In W' (fun b => B ≤ b ∧ v.ownBlock ≠ some b) x :=
  K.mono (fun b hb => ⟨by omega, fun hv => by have := (h.block b hv).2; omega⟩) hx
theorem Acc.out (h : Acc K e B W v l) : ∃ a cap, v = .slice a l.length cap ∧ RowAt W (fun b => B ≤ b) a cap l.length (l.flatMap K.vals) ∧ ∀ x ∈ l, K.In W (fun b => B ≤ b) x := by
  have hin : ∀ x ∈ l, K.In W (fun b => B ≤ b) x := fun x hx => K.mono (fun b hb => hb.1) (h.inn x hx)
  obtain ⟨hlen, ⟨rfl, h0⟩ | ⟨g, cap, cur, rfl, hB, hg, h1, h2, h3, h4⟩⟩ := h.own
  · obtain rfl := List.eq_nil_of_length_eq_zero h0
    exact ⟨none, 0, rfl, ⟨Nat.le_refl _, by unfold maxLen; omega, fun _ => rfl, fun j u hj => by simp at hj⟩, hin⟩
  · refine ⟨_, cap, rfl, ⟨h1, h2, fun h => (by cases h), fun j u hj => ⟨g, 0, rfl, hB, ?_⟩⟩, hin⟩
    have hj2 : j < l.length * K.c := by rw [← hlen]; exact (List.getElem?_eq_some_iff.1 hj).1
    rw [Nat.zero_add]
    rw [← h4, List.getElem?_take, if_pos hj2] at hj
    simp only [World.cell?, hg]
    simpa using hj
end

/-- append of one element to a list that the call builds, as a step of a region that draws -/
theorem step_append_acc {P : Program} {ops : Array Oper} {o : Oper} {a : Act} {w : World} {K : Act → World → Prop} {Q : Exit → Act → World → Prop} {E : Prop}
    (hg : o.guard = none) (s x y : Operand) (t : TypeId) (hop : o.op = Op.call { callee := Callee.builtin Builtin.append, args := #[s, x], argTypes := #[t, t] })
    (e : TypeId) (i : TypeInfo) (z : Value) (size bytes : Nat) (h1 : P.underlying t = some (.slice e)) (h2 : P.info? e = some i) (h3 : i.zero = some z) (h4 : i.size = size) (h5 : i.bytes = bytes) (h6 : z.cells.size = size) (h7 : 0 < size)
    (base : Nat) (n : Nat) (v : Value) (xs : List Value) (hs : a.eval s = v) (hown : w.ownsRow base e size v n xs) (b : Nat) (hx : a.eval x = .slice (some ⟨b, 0, none⟩) 1 1) (vs : List Value) (hy : a.eval y = .agg ⟨vs⟩) (hl : vs.length = size)
    (hc : ∀ j u, vs[j]? = some u → w.cell? ⟨b, j, none⟩ = some u) (h1c : ∀ u ∈ vs, u.oneCell' = true) (hn : n + 1 ≤ maxLen) (hby : (n + 1) * bytes ≤ 140737488355328) (hbase : base ≤ w.heap.size)
    (hK : ∀ v' w', w'.ownsRow base e size v' (n + 1) (xs ++ vs) → w.grownBy w' v.ownBlock → (v'.ownBlock = v.ownBlock ∨ v'.ownBlock = some w.heap.size) → K (a.put o.dst v') w') :
    if Region.wanted o (yielded ops a.tmps) = true then Oper.wp P o a w K Q else E := by
  have _ := hy
  rw [if_pos (by simp [Region.wanted, hg])]
  obtain ⟨v', w', hr, r2, r3, _, r5⟩ := run_append_own_at (P := P) w base t o.type e i z size bytes h1 h2 h3 h4 h5 h6 h7 v n xs hown ⟨b, 0, none⟩ 1 1 vs (by rw [hl, Nat.one_mul])
    (fun j u hu => by
      have hadd : (⟨b, 0, none⟩ : Addr).add j = ⟨b, j, none⟩ := by
        unfold Addr.add
        by_cases h : j = 0
        · rw [if_pos h, h]
        · rw [if_neg h, Nat.zero_add]
      rw [hadd]; exact hc j u hu) h1c hn hby hbase
  unfold Oper.wp execOp
  simp only [hop, resolve, invoke, builtin, Sem.run_bind, Sem.run_pure, Result.andThen_ok, List.map_toArray, List.map_cons, List.map_nil, hs, hx, hr]
  exact hK v' w' r2 r3 r5

theorem Ex.vals_one (e : Ex) : ∀ u ∈ e.vals, u.oneCell' = true := by
  obtain ⟨k, nm, n, a, cap, args, pos⟩ := e
  intro u hu
  simp only [Ex.vals, List.mem_cons, List.not_mem_nil, or_false] at hu
  rcases hu with rfl | rfl | rfl | rfl | rfl <;> rfl
theorem St.vals_one (e : St) : ∀ u ∈ e.vals, u.oneCell' = true := by
  obtain ⟨k, nm, to, nw, ea, ecap, e, ba, bcap, body, la, lcap, els, pos⟩ := e
  intro u hu
  simp only [St.vals, List.mem_cons, List.not_mem_nil, or_false] at hu
  rcases hu with rfl | rfl | rfl | rfl | rfl | rfl | rfl | rfl <;> rfl
theorem De.vals_one (e : De) : ∀ u ∈ e.vals, u.oneCell' = true := by
  intro u hu
  simp only [De.vals, List.mem_cons, List.not_mem_nil, or_false] at hu
  rcases hu with rfl | rfl | rfl | rfl | rfl | rfl <;> rfl

/-- a block known whole -/
theorem blk_cell {W : World} {b : Nat} {vs : Array Value} {t : TypeId} {fr : Nat × Nat} (h : W.heap[b]? = some (.cells vs t fr)) {j : Nat} {u : Value} (hu : vs[j]? = some u) : W.cell? ⟨b, j, none⟩ = some u := by
  simp only [World.cell?, h]
  simpa using hu
theorem blk_free {W : World} {b : Nat} {vs : Array Value} {t : TypeId} (h : W.heap[b]? = some (.cells vs t (0, 0))) (j : Nat) : W.frozen? ⟨b, j, none⟩ = false := by
  simp [World.frozen?, h]
theorem blk_set {W : World} {b : Nat} {vs : Array Value} {t : TypeId} {fr : Nat × Nat} (h : W.heap[b]? = some (.cells vs t fr)) (j : Nat) (u : Value) : (W.setCell ⟨b, j, none⟩ u).heap[b]? = some (.cells (vs.setIfInBounds j u) t fr) := by
  simp [World.setCell, Array.getElem?_modify, h]
theorem blk_new (W : World) (o : Obj) {b : Nat} (hb : W.heap.size = b) : (W.alloc o).heap[b]? = some o := by subst hb; exact World.alloc_heap_new _ _

section
variable {α : Type} {K : Kd α} {e : TypeId} {B : Nat} {W W' : World} {v : Value} {l : List α}
theorem Acc.far (h : Acc K e B W v l) {b : Nat} (hb : b < B) : some b ≠ v.ownBlock := fun hv => by have := (h.block b hv.symm).1; omega
/-- a block ahead of the call's own lists is as it was behind an append -/
theorem Acc.keep (h : Acc K e B W v l) {b : Nat} {o o' : Obj} (hw : W.heap[b]? = some o) (hb : b < B) (hg : (W.alloc o').grownBy W' v.ownBlock) : W'.heap[b]? = some o := by
  have hlt := (Array.getElem?_eq_some_iff.1 hw).1
  exact (hg.block b (by simp; omega) (h.far hb)).trans ((Below.heap_alloc _ _ _ hlt).trans hw)
theorem Acc.belowA (h : Acc K e B W v l) {n : Nat} {w0 : World} {o' : Obj} (h0 : Below n w0 W) (hn : n ≤ B) (hs : B ≤ W.heap.size) (hg : (W.alloc o').grownBy W' v.ownBlock) : Below n w0 W' :=
  Below.grown (h0.alloc (by omega) _) hg (by simp; omega) (fun b hb => by have := (h.block b hb).1; omega)
theorem Acc.form {x : α} (h : Acc K e B W v (l ++ [x])) : ∃ g cap, v = .slice (some ⟨g, 0, none⟩) (l.length + 1) cap := by
  obtain ⟨_, ⟨_, h0⟩ | ⟨g, cap, cur, hv, _⟩⟩ := h.own
  · simp at h0
  · exact ⟨g, cap, by rw [hv, List.length_append]; rfl⟩
theorem size_app {o' : Obj} {row : Option Nat} (hg : (W.alloc o').grownBy W' row) : W.heap.size + 1 ≤ W'.heap.size := by
  have := hg.size
  simpa using this
end
/-- the same, told of the list -/
theorem step_append_K {P : Program} {ops : Array Oper} {o : Oper} {a : Act} {w : World} {K : Act → World → Prop} {Q : Exit → Act → World → Prop} {E : Prop} {α : Type} (D : Kd α)
    (hg : o.guard = none) (s x y : Operand) (t : TypeId) (hop : o.op = Op.call { callee := Callee.builtin Builtin.append, args := #[s, x], argTypes := #[t, t] })
    (e : TypeId) (i : TypeInfo) (z : Value) (size bytes : Nat) (h1 : P.underlying t = some (.slice e)) (h2 : P.info? e = some i) (h3 : i.zero = some z) (h4 : i.size = size) (h5 : i.bytes = bytes) (h6 : z.cells.size = size) (h7 : 0 < size) (hD : D.c = size) (h1c : ∀ x, ∀ u ∈ D.vals x, u.oneCell' = true)
    (base : Nat) (v : Value) (l : List α) (el : α) (hs : a.eval s = v) (hacc : Acc D e base w v l) (hel : D.In w (fun b => base ≤ b ∧ v.ownBlock ≠ some b) el) (b : Nat) (hx : a.eval x = .slice (some ⟨b, 0, none⟩) 1 1) (hy : a.eval y = .agg ⟨D.vals el⟩)
    (fr : Nat × Nat) (hc : w.heap[b]? = some (.cells ⟨D.vals el⟩ e fr)) (hn : l.length + 1 ≤ maxLen) (hby : (l.length + 1) * bytes ≤ 140737488355328) (hbase : base ≤ w.heap.size)
    (hK : ∀ v' w', Acc D e base w' v' (l ++ [el]) → w.grownBy w' v.ownBlock → K (a.put o.dst v') w') :
    if Region.wanted o (yielded ops a.tmps) = true then Oper.wp P o a w K Q else E := by
  subst hD
  exact step_append_acc hg s x y t hop e i z D.c bytes h1 h2 h3 h4 h5 h6 h7 base l.length v (l.flatMap D.vals) hs hacc.own b hx (D.vals el) hy (D.len el) (fun j u hu => blk_cell hc (by simpa using hu)) (h1c el) hn hby hbase
    (fun v' w' r1 r2 r3 => hK v' w' (hacc.snoc hel r1 r2 r3) r2)
/-- the same, at a plain list of operations -/
theorem wpList_append_K {P : Program} {ops : Array Oper} {rest : List Oper} {o : Oper} {a : Act} {w : World} {Q : Exit → Act → World → Prop} {α : Type} (D : Kd α)
    (hg : o.guard = none) (s x y : Operand) (t : TypeId) (hop : o.op = Op.call { callee := Callee.builtin Builtin.append, args := #[s, x], argTypes := #[t, t] })
    (e : TypeId) (i : TypeInfo) (z : Value) (size bytes : Nat) (h1 : P.underlying t = some (.slice e)) (h2 : P.info? e = some i) (h3 : i.zero = some z) (h4 : i.size = size) (h5 : i.bytes = bytes) (h6 : z.cells.size = size) (h7 : 0 < size) (hD : D.c = size) (h1c : ∀ x, ∀ u ∈ D.vals x, u.oneCell' = true)
    (base : Nat) (v : Value) (l : List α) (el : α) (hs : a.eval s = v) (hacc : Acc D e base w v l) (hel : D.In w (fun b => base ≤ b ∧ v.ownBlock ≠ some b) el) (b : Nat) (hx : a.eval x = .slice (some ⟨b, 0, none⟩) 1 1) (hy : a.eval y = .agg ⟨D.vals el⟩)
    (fr : Nat × Nat) (hc : w.heap[b]? = some (.cells ⟨D.vals el⟩ e fr)) (hn : l.length + 1 ≤ maxLen) (hby : (l.length + 1) * bytes ≤ 140737488355328) (hbase : base ≤ w.heap.size)
    (hK : ∀ v' w', Acc D e base w' v' (l ++ [el]) → w.grownBy w' v.ownBlock → wpList P ops Q rest (a.put o.dst v') w') :
    wpList P ops Q (o :: rest) a w := by
  have _ := hy
  subst hD
  exact wpList_append_own_at w hg s x t hop base e i z D.c bytes h1 h2 h3 h4 h5 h6 h7 v l.length (l.flatMap D.vals) hs hacc.own ⟨b, 0, none⟩ 1 1 (D.vals el) hx (by rw [D.len, Nat.one_mul]) (fun j u hu => by
      have hadd : (⟨b, 0, none⟩ : Addr).add j = ⟨b, j, none⟩ := by
        unfold Addr.add
        by_cases h : j = 0
        · rw [if_pos h, h]
        · rw [if_neg h, Nat.zero_add]
      rw [hadd]; exact blk_cell hc (by simpa using hu)) (h1c el) hn hby hbase
    (fun v' w' r1 r2 _ r3 => hK v' w' (hacc.snoc hel r1 r2 r3) r2)

/-- the same, where the elements' parts may lie in other blocks, too -/
structure AccS {α : Type} (K : Kd α) (e : TypeId) (B : Nat) (W : World) (v : Value) (l : List α) : Prop where
  own : W.ownsRow B e K.c v l.length (l.flatMap K.vals)
  inn : ∀ x ∈ l, K.In W (fun b => v.ownBlock ≠ some b) x
section
variable {α : Type} {K : Kd α} {e : TypeId} {B : Nat} {W W' : World} {v : Value} {l : List α}
theorem AccS.nil (K : Kd α) (e : TypeId) (B : Nat) (W : World) : AccS K e B W (.slice none 0 0) [] := ⟨World.ownsRow_nil _ _ _ _, fun x hx => by cases hx⟩
theorem AccS.below (h : AccS K e B W v l) (hb : Below W.heap.size W W') : AccS K e B W' v l := by
  refine ⟨?_, fun x hx => K.below (Kps.of_below hb) (h.inn x hx)⟩
  obtain ⟨h1, h2⟩ := h.own
  exact ⟨h1, h2.imp id fun ⟨g, cap, cur, hv, hB, hg, hr⟩ => ⟨g, cap, cur, hv, hB, (hb.block g (Array.getElem?_eq_some_iff.1 hg).1).trans hg, hr⟩⟩
theorem AccS.alloc (h : AccS K e B W v l) (o : Obj) : AccS K e B (W.alloc o) v l := h.below ((Below.refl _ _).alloc (Nat.le_refl _) _)
theorem AccS.block (h : AccS K e B W v l) (k : Nat) (hk : v.ownBlock = some k) : B ≤ k ∧ k < W.heap.size := h.own.lt k hk
theorem AccS.snoc {x : α} {v' : Value} (h : AccS K e B W v l) (hx : K.In W (fun b => v.ownBlock ≠ some b) x) (hown : W'.ownsRow B e K.c v' (l.length + 1) (l.flatMap K.vals ++ K.vals x)) (hg : W.grownBy W' v.ownBlock)
    (ho : v'.ownBlock = v.ownBlock ∨ v'.ownBlock = some W.heap.size) : AccS K e B W' v' (l ++ [x]) := by
  have key : ∀ y, K.In W (fun b => v.ownBlock ≠ some b) y → K.In W' (fun b => v'.ownBlock ≠ some b) y := fun y hy =>
    K.mono (fun b (hb : v.ownBlock ≠ some b ∧ b < W.heap.size) => fun hv => by
      rcases ho with ho | ho
      · exact hb.1 (ho.symm.trans hv)
      · have := Option.some.inj (ho.symm.trans hv); omega) (K.below (S := fun b => v.ownBlock ≠ some b ∧ b < W.heap.size) (fun b o u hb hc => (World.cell?_of_block (hg.block b hb.2 (fun hh => hb.1 hh.symm))).trans hc) (K.bds hy))
  refine ⟨?_, fun y hy => ?_⟩
  · rw [List.length_append, List.flatMap_append, List.flatMap_singleton]
    exact hown
  · rcases List.mem_append.1 hy with hy | hy
    · exact key y (h.inn y hy)
    · rw [List.mem_singleton.1 hy]; exact key x hx
theorem AccS.out (h : AccS K e B W v l) : ∃ a cap, v = .slice a l.length cap ∧ RowAt W (fun _ => True) a cap l.length (l.flatMap K.vals) ∧ ∀ x ∈ l, K.In W (fun _ => True) x := by
  have hin : ∀ x ∈ l, K.In W (fun _ => True) x := fun x hx => K.mono (fun b hb => trivial) (h.inn x hx)
  obtain ⟨hlen, ⟨rfl, h0⟩ | ⟨g, cap, cur, rfl, hB, hg, h1, h2, h3, h4⟩⟩ := h.own
  · obtain rfl := List.eq_nil_of_length_eq_zero h0
    exact ⟨none, 0, rfl, ⟨Nat.le_refl _, by unfold maxLen; omega, fun _ => rfl, fun j u hj => by simp at hj⟩, hin⟩
  · refine ⟨_, cap, rfl, ⟨h1, h2, fun h => (by cases h), fun j u hj => ⟨g, 0, rfl, trivial, ?_⟩⟩, hin⟩
    have hj2 : j < l.length * K.c := by rw [← hlen]; exact (List.getElem?_eq_some_iff.1 hj).1
    rw [Nat.zero_add]
    rw [← h4, List.getElem?_take, if_pos hj2] at hj
    simp only [World.cell?, hg]
    simpa using hj
theorem AccS.belowA (h : AccS K e B W v l) {n : Nat} {w0 : World} {o' : Obj} (h0 : Below n w0 W) (hn : n ≤ B) (hs : B ≤ W.heap.size) (hg : (W.alloc o').grownBy W' v.ownBlock) : Below n w0 W' :=
  Below.grown (h0.alloc (by omega) _) hg (by simp; omega) (fun b hb => by have := (h.block b hb).1; omega)
end
theorem wpList_append_S {P : Program} {ops : Array Oper} {rest : List Oper} {o : Oper} {a : Act} {w : World} {Q : Exit → Act → World → Prop} {α : Type} (D : Kd α)
    (hg : o.guard = none) (s x y : Operand) (t : TypeId) (hop : o.op = Op.call { callee := Callee.builtin Builtin.append, args := #[s, x], argTypes := #[t, t] })
    (e : TypeId) (i : TypeInfo) (z : Value) (size bytes : Nat) (h1 : P.underlying t = some (.slice e)) (h2 : P.info? e = some i) (h3 : i.zero = some z) (h4 : i.size = size) (h5 : i.bytes = bytes) (h6 : z.cells.size = size) (h7 : 0 < size) (hD : D.c = size) (h1c : ∀ x, ∀ u ∈ D.vals x, u.oneCell' = true)
    (base : Nat) (v : Value) (l : List α) (el : α) (hs : a.eval s = v) (hacc : AccS D e base w v l) (hel : D.In w (fun b => v.ownBlock ≠ some b) el) (b : Nat) (hx : a.eval x = .slice (some ⟨b, 0, none⟩) 1 1) (hy : a.eval y = .agg ⟨D.vals el⟩)
    (fr : Nat × Nat) (hc : w.heap[b]? = some (.cells ⟨D.vals el⟩ e fr)) (hn : l.length + 1 ≤ maxLen) (hby : (l.length + 1) * bytes ≤ 140737488355328) (hbase : base ≤ w.heap.size)
    (hK : ∀ v' w', AccS D e base w' v' (l ++ [el]) → w.grownBy w' v.ownBlock → wpList P ops Q rest (a.put o.dst v') w') :
    wpList P ops Q (o :: rest) a w := by
  have _ := hy
  subst hD
  exact wpList_append_own_at w hg s x t hop base e i z D.c bytes h1 h2 h3 h4 h5 h6 h7 v l.length (l.flatMap D.vals) hs hacc.own ⟨b, 0, none⟩ 1 1 (D.vals el) hx (by rw [D.len, Nat.one_mul]) (fun j u hu => by
      have hadd : (⟨b, 0, none⟩ : Addr).add j = ⟨b, j, none⟩ := by
        unfold Addr.add
        by_cases h : j = 0
        · rw [if_pos h, h]
        · rw [if_neg h, Nat.zero_add]
      rw [hadd]; exact blk_cell hc (by simpa using hu)) (h1c el) hn hby hbase
    (fun v' w' r1 r2 _ r3 => hK v' w' (hacc.snoc hel r1 r2 r3) r2)
end Go.Proofs.YtpcdlneompnhlaaGreatDoor.Tr

namespace Go.Proofs.YtpcdlneompnhlaaGreatDoor.Pa
open Go Go.RowKit
open Go.Proofs.YtpcdlneompnhlaaGreatDoor.Lx Go.Proofs.YtpcdlneompnhlaaGreatDoor.Tr

theorem info_ex : (Tryz.prog.info? 62).map (fun i => (i.zero, i.size, i.bytes)) = some (some (.agg #[.int .u8 0, .string ⟨#[]⟩, .int .i64 0, .slice none 0 0, .int .i64 0]), 5, 64) := by kernel_rfl
theorem info_st : (Tryz.prog.info? 60).map (fun i => (i.zero, i.size, i.bytes)) = some (some (.agg #[.int .u8 0, .string ⟨#[]⟩, .string ⟨#[]⟩, .bool false, .slice none 0 0, .slice none 0 0, .slice none 0 0, .int .i64 0]), 8, 128) := by kernel_rfl
theorem info_de : (Tryz.prog.info? 31).map (fun i => (i.zero, i.size, i.bytes)) = some (some (.agg #[.int .u8 0, .string ⟨#[]⟩, .int .i64 0, .slice none 0 0, .slice none 0 0, .int .i64 0]), 6, 88) := by kernel_rfl
theorem info_str : (Tryz.prog.info? 9).map (fun i => (i.zero, i.size, i.bytes)) = some (some (.string ⟨#[]⟩), 1, 16) := by kernel_rfl
/-- texts -/
def KN : Kd ByteArray := ⟨fun s => [.string s], 1, fun _ => rfl, fun _ _ s => s.size ≤ maxLen, fun _ h => h, fun _ h => h, fun h => h⟩
theorem KN.one (s : ByteArray) : ∀ u ∈ KN.vals s, u.oneCell' = true := by
  intro u hu
  simp [KN] at hu
  subst hu
  rfl
/-- append of one element, whatever it is -/
theorem wpList_append_V {P : Program} {ops : Array Oper} {rest : List Oper} {o : Oper} {a : Act} {w : World} {Q : Exit → Act → World → Prop} {α : Type} (D : Kd α)
    (hg : o.guard = none) (s x : Operand) (t : TypeId) (hop : o.op = Op.call { callee := Callee.builtin Builtin.append, args := #[s, x], argTypes := #[t, t] })
    (e : TypeId) (i : TypeInfo) (z : Value) (size bytes : Nat) (h1 : P.underlying t = some (.slice e)) (h2 : P.info? e = some i) (h3 : i.zero = some z) (h4 : i.size = size) (h5 : i.bytes = bytes) (h6 : z.cells.size = size) (h7 : 0 < size) (hD : D.c = size) (h1c : ∀ x, ∀ u ∈ D.vals x, u.oneCell' = true)
    (base : Nat) (v : Value) (l : List α) (el : α) (hs : a.eval s = v) (hacc : Acc D e base w v l) (hel : D.In w (fun b => base ≤ b ∧ v.ownBlock ≠ some b) el) (b : Nat) (hx : a.eval x = .slice (some ⟨b, 0, none⟩) 1 1)
    (fr : Nat × Nat) (hc : w.heap[b]? = some (.cells ⟨D.vals el⟩ e fr)) (hn : l.length + 1 ≤ maxLen) (hby : (l.length + 1) * bytes ≤ 140737488355328) (hbase : base ≤ w.heap.size)
    (hK : ∀ v' w', Acc D e base w' v' (l ++ [el]) → w.grownBy w' v.ownBlock → wpList P ops Q rest (a.put o.dst v') w') :
    wpList P ops Q (o :: rest) a w := by
  subst hD
  exact wpList_append_own_at w hg s x t hop base e i z D.c bytes h1 h2 h3 h4 h5 h6 h7 v l.length (l.flatMap D.vals) hs hacc.own ⟨b, 0, none⟩ 1 1 (D.vals el) hx (by rw [D.len, Nat.one_mul]) (fun j u hu => by
      have hadd : (⟨b, 0, none⟩ : Addr).add j = ⟨b, j, none⟩ := by
        unfold Addr.add
        by_cases h : j = 0
        · rw [if_pos h, h]
        · rw [if_neg h, Nat.zero_add]
      rw [hadd]; exact Pa.blk_cell hc (by simpa using hu)) (h1c el) hn hby hbase
    (fun v' w' r1 r2 _ r3 => hK v' w' (hacc.snoc hel r1 r2 r3) r2)

theorem Acc_re {α : Type} {K : Kd α} {e : TypeId} {B : Nat} {W W' : World} {v : Value} {l : List α} {rb : Nat} (h : Acc K e B W v l) (hr : RE rb W W') (hb : rb < B) : Acc K e B W' v l := h.upper fun b h1 h2 => hr.block b h2 (by omega)
theorem RE.grown {rb : Nat} {w W W' : World} {o : Obj} {row : Option Nat} (h : RE rb w W) (hg : (W.alloc o).grownBy W' row) (hr : ∀ k, row = some k → w.heap.size ≤ k) : RE rb w W' :=
  ⟨hg.os.trans h.os, hg.tape.trans h.tape, hg.output.trans h.output, by have h1 := hg.size; have h2 := h.size; simp at h1; omega, fun k hk hn => (hg.block k (by have := h.size; simp; omega) (fun e => by have := hr k e.symm; omega)).trans ((Below.heap_alloc _ _ _ (Nat.lt_of_lt_of_le hk h.size)).trans (h.block k hk hn))⟩
theorem Rd.grown {c : Rc} {i B : Nat} {W W' : World} {o : Obj} {row : Option Nat} (h : Rd c i W) (hl : Low c B) (hB : B ≤ W.heap.size) (hg : (W.alloc o).grownBy W' row) (hr : ∀ k, row = some k → B ≤ k) : Rd c i W' :=
  h.keep hl ((Below.refl B W).alloc hB o |>.grown hg (by simp; omega) hr)
theorem accX_out {e : TypeId} {B : Nat} {W : World} {v : Value} {l : List Ex} (h : Acc KE e B W v l) : VXs (fun b => B ≤ b) (l.map ea) v W := by
  obtain ⟨a, cap, rfl, h1, h2⟩ := h.out
  refine ⟨l, a, cap, rfl, h1, ?_, eaL_map l⟩
  clear h1 h
  induction l with
  | nil => unfold Ex.InL; trivial
  | cons x r ih => unfold Ex.InL; exact ⟨h2 x (by simp), ih fun y hy => h2 y (by simp [hy])⟩
theorem accS_out {e : TypeId} {B : Nat} {W : World} {v : Value} {l : List St} (h : Acc KS e B W v l) : VTs (fun b => B ≤ b) (l.map sa) v W := by
  obtain ⟨a, cap, rfl, h1, h2⟩ := h.out
  refine ⟨l, a, cap, rfl, h1, ?_, saL_map l⟩
  clear h1 h
  induction l with
  | nil => unfold St.InL; trivial
  | cons x r ih => unfold St.InL; exact ⟨h2 x (by simp), ih fun y hy => h2 y (by simp [hy])⟩
theorem accD_out {e : TypeId} {B : Nat} {W : World} {v : Value} {l : List De} (h : Acc KDe e B W v l) : VDs (fun b => B ≤ b) (l.map da) v W := by
  obtain ⟨a, cap, rfl, h1, h2⟩ := h.out
  exact ⟨l, a, cap, rfl, h1, h2, rfl⟩
theorem flat_str (l : List ByteArray) : l.flatMap KN.vals = strCells l := by
  induction l with
  | nil => rfl
  | cons x r ih => rw [List.flatMap_cons, ih]; rfl
theorem accN_out {e : TypeId} {B : Nat} {W : World} {v : Value} {l : List ByteArray} (h : Acc KN e B W v l) : VN (fun b => B ≤ b) l v W := by
  obtain ⟨a, cap, rfl, h1, h2⟩ := h.out
  rw [flat_str] at h1
  exact ⟨a, cap, rfl, h1, h2⟩
end Go.Proofs.YtpcdlneompnhlaaGreatDoor.Pa
