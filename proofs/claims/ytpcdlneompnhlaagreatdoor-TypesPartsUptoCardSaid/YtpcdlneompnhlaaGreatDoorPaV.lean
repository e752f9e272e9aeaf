/- What a method that reads has of its own: blocks of memory, values that say trees; how calls, stores and new memory keep it. Conditions: none. -/
import Derived.Test.YtpcdlneompnhlaaGreatDoorGrAH
namespace Go.Proofs.YtpcdlneompnhlaaGreatDoor.Pa
open Go Go.RowKit
open Go.Proofs.YtpcdlneompnhlaaGreatDoor.Lx Go.Proofs.YtpcdlneompnhlaaGreatDoor.Tr

mutual
theorem StIn.there {w : World} {S : Nat → Prop} : ∀ e, St.In w S e → St.In w (fun b => S b ∧ b < w.heap.size) e
  | .mk k nm to new ea ecap e ba bcap body la lcap els pos, h => by
    unfold St.In at h ⊢
    obtain ⟨h1, h2, h3, h4, h5, h6, h7, h8, h9, h10⟩ := h
    exact ⟨h1, h2, h3, h4, row_there h5, InL.there _ h6, row_there h7, StInL.there _ h8, row_there h9, StInL.there _ h10⟩
theorem StInL.there {w : World} {S : Nat → Prop} : ∀ l, St.InL w S l → St.InL w (fun b => S b ∧ b < w.heap.size) l
  | [], _ => by unfold St.InL; trivial
  | e :: r, h => by
    unfold St.InL at h ⊢
    exact ⟨StIn.there e h.1, StInL.there r h.2⟩
end
theorem DeIn.there {w : World} {S : Nat → Prop} {d : De} (h : De.In w S d) : De.In w (fun b => S b ∧ b < w.heap.size) d :=
  ⟨h.1, h.2.1, h.2.2.1, h.2.2.2.1, row_there h.2.2.2.2.1, h.2.2.2.2.2.1, row_there h.2.2.2.2.2.2.1, StInL.there _ h.2.2.2.2.2.2.2⟩

/-- a fact on values, in blocks of S -/
structure Fact where
  P : (Nat → Prop) → World → Prop
  mono : ∀ {S S' : Nat → Prop} {W : World}, (∀ b, S b → S' b) → P S W → P S' W
  keep : ∀ {S : Nat → Prop} {W W' : World}, Kps S W W' → P S W → P S W'
  there : ∀ {S : Nat → Prop} {W : World}, P S W → P (fun b => S b ∧ b < W.heap.size) W
def Fact.X (e : Ex) : Fact := ⟨fun S W => Ex.In W S e, fun h => Ex.In.mono h e, fun h => Ex.In.below h e, In.there e⟩
def Fact.Xs (l : List Ex) (a : Option Addr) (cap : Nat) : Fact :=
  ⟨fun S W => RowAt W S a cap l.length (exCells l) ∧ Ex.InL W S l, fun h k => ⟨k.1.mono h, Ex.InL.mono h _ k.2⟩, fun h k => ⟨k.1.below h, Ex.InL.below h _ k.2⟩, fun k => ⟨row_there k.1, InL.there _ k.2⟩⟩
def Fact.T (e : St) : Fact := ⟨fun S W => St.In W S e, fun h => St.In.mono h e, fun h => St.In.below h e, StIn.there e⟩
def Fact.Ts (l : List St) (a : Option Addr) (cap : Nat) : Fact :=
  ⟨fun S W => RowAt W S a cap l.length (stCells l) ∧ St.InL W S l, fun h k => ⟨k.1.mono h, St.InL.mono h _ k.2⟩, fun h k => ⟨k.1.below h, St.InL.below h _ k.2⟩, fun k => ⟨row_there k.1, StInL.there _ k.2⟩⟩
def Fact.N (l : List ByteArray) (a : Option Addr) (cap : Nat) : Fact :=
  ⟨fun S W => RowAt W S a cap l.length (strCells l), fun h k => k.mono h, fun h k => k.below h, fun k => row_there k⟩
def Fact.D (d : De) : Fact := ⟨fun S W => De.In W S d, fun h k => k.mono h, fun h k => k.below h, fun k => DeIn.there k⟩
def Fact.Ds (l : List De) (a : Option Addr) (cap : Nat) : Fact :=
  ⟨fun S W => RowAt W S a cap l.length (deCells l) ∧ De.InL W S l, fun h k => ⟨k.1.mono h, k.2.mono h⟩, fun h k => ⟨k.1.below h, k.2.below h⟩, fun k => ⟨row_there k.1, fun d hd => DeIn.there (k.2 d hd)⟩⟩

/-- a method's frame: the reader stands at token i; own blocks with what they hold; facts on values -/
structure Fr (c : Rc) (w0 : World) (i : Nat) (bs : List (Nat × Obj)) (fs : List Fact) (W : World) : Prop where
  rd : Rd c i W
  lo : Low c w0.heap.size
  re : RE c.rb w0 W
  bl : ∀ x ∈ bs, W.heap[x.1]? = some x.2 ∧ w0.heap.size ≤ x.1
  nd : (bs.map Prod.fst).Nodup
  ft : ∀ f ∈ fs, f.P (fun b => w0.heap.size ≤ b ∧ b < W.heap.size ∧ ∀ x ∈ bs, b ≠ x.1) W
theorem Fr.start {c : Rc} {w : World} {i : Nat} (h : Rd c i w) : Fr c w i [] [] w := ⟨h, h.low, RE.refl _ _, by simp, by simp, by simp⟩
theorem Fr.hd {c : Rc} {w0 W : World} {i b : Nat} {o : Obj} {bs : List (Nat × Obj)} {fs : List Fact} (h : Fr c w0 i ((b, o) :: bs) fs W) : W.heap[b]? = some o := (h.bl (b, o) (by simp)).1
theorem Fr.hd2 {c : Rc} {w0 W : World} {i b : Nat} {o : Obj} {x : Nat × Obj} {bs : List (Nat × Obj)} {fs : List Fact} (h : Fr c w0 i (x :: (b, o) :: bs) fs W) : W.heap[b]? = some o := (h.bl (b, o) (by simp)).1
theorem Fr.hd3 {c : Rc} {w0 W : World} {i b : Nat} {o : Obj} {x y : Nat × Obj} {bs : List (Nat × Obj)} {fs : List Fact} (h : Fr c w0 i (x :: y :: (b, o) :: bs) fs W) : W.heap[b]? = some o := (h.bl (b, o) (by simp)).1
theorem Fr.swap {c : Rc} {w0 W : World} {i : Nat} {x y : Nat × Obj} {bs : List (Nat × Obj)} {fs : List Fact} (h : Fr c w0 i (x :: y :: bs) fs W) : Fr c w0 i (y :: x :: bs) fs W := by
  have hm : ∀ z, z ∈ y :: x :: bs ↔ z ∈ x :: y :: bs := fun z => by simp only [List.mem_cons]; constructor <;> (rintro (h | h | h) <;> simp [h])
  refine ⟨h.rd, h.lo, h.re, fun z hz => h.bl z ((hm z).1 hz), ?_, fun f hf => f.mono (fun b hb => ⟨hb.1, hb.2.1, fun z hz => hb.2.2 z ((hm z).1 hz)⟩) (h.ft f hf)⟩
  have := h.nd
  simp only [List.map_cons, List.nodup_cons, List.mem_cons, not_or] at this ⊢
  exact ⟨⟨fun e => this.1.1 e.symm, this.2.1⟩, this.1.2, this.2.2⟩
theorem Fr.drewN {c : Rc} {w0 W : World} {i : Nat} {bs : List (Nat × Obj)} {fs : List Fact} (h : Fr c w0 i bs fs W) (n : Nat) : Fr c w0 i bs fs (W.drewN n) :=
  ⟨h.rd.drewN n, h.lo, h.re.trans (RE.drewN W n), h.bl, h.nd, fun f hf => by have := f.keep (W := W) (W' := W.drewN n) (fun _ _ _ _ hc => hc) (h.ft f hf); exact this⟩
/-- more memory -/
theorem Fr.ext {c : Rc} {w0 W W' : World} {i : Nat} {bs : List (Nat × Obj)} {fs : List Fact} (h : Fr c w0 i bs fs W) (hb : Below W.heap.size W W') : Fr c w0 i bs fs W' :=
  ⟨h.rd.ext hb, h.lo, h.re.trans (RE.of_below hb), fun x hx => ⟨(hb.block _ (cells_lt (h.bl x hx).1)).trans (h.bl x hx).1, (h.bl x hx).2⟩, h.nd,
    fun f hf => f.mono (fun _ hk => ⟨hk.1, Nat.lt_of_lt_of_le hk.2.1 hb.size, hk.2.2⟩) (f.keep (Kps.of_below hb) (h.ft f hf))⟩
theorem Fr.add {c : Rc} {w0 W : World} {i : Nat} {bs : List (Nat × Obj)} {fs : List Fact} (h : Fr c w0 i bs fs W) (f : Fact) (hf : f.P (fun b => w0.heap.size ≤ b ∧ b < W.heap.size ∧ ∀ x ∈ bs, b ≠ x.1) W) : Fr c w0 i bs (f :: fs) W :=
  ⟨h.rd, h.lo, h.re, h.bl, h.nd, fun g hg => by
    rcases List.mem_cons.1 hg with rfl | hg
    · exact hf
    · exact h.ft g hg⟩
theorem Fr.alloc {c : Rc} {w0 W : World} {i : Nat} {bs : List (Nat × Obj)} {fs : List Fact} (h : Fr c w0 i bs fs W) (vs : Array Value) (T : TypeId) : Fr c w0 i ((W.heap.size, .cells vs T (0, 0)) :: bs) fs (W.alloc (.cells vs T)) := by
  have hb : Below W.heap.size W (W.alloc (.cells vs T)) := (Below.refl _ _).alloc (Nat.le_refl _) _
  have h1 := h.ext hb
  refine ⟨h1.rd, h1.lo, h1.re, fun x hx => ?_, ?_, fun f hf => ?_⟩
  · rcases List.mem_cons.1 hx with rfl | hx
    · exact ⟨World.alloc_heap_new W _, h.re.size⟩
    · exact h1.bl x hx
  · simp only [List.map_cons, List.nodup_cons]
    refine ⟨fun hm => ?_, h.nd⟩
    obtain ⟨x, hx, he⟩ := List.mem_map.1 hm
    have := cells_lt (h.bl x hx).1
    omega
  · refine f.mono (fun b hb2 => ⟨hb2.1, Nat.lt_of_lt_of_le hb2.2.1 hb.size, fun x hx => ?_⟩) (f.keep (Kps.alloc _ _) (h.ft f hf))
    rcases List.mem_cons.1 hx with rfl | hx
    · exact Nat.ne_of_lt hb2.2.1
    · exact hb2.2.2 x hx
theorem Fr.set {c : Rc} {w0 W : World} {i b : Nat} {vs : Array Value} {T : TypeId} {fr : Nat × Nat} {bs : List (Nat × Obj)} {fs : List Fact} (h : Fr c w0 i ((b, .cells vs T fr) :: bs) fs W) (k : Nat) (v : Value) :
    Fr c w0 i ((b, .cells (vs.setIfInBounds k v) T fr) :: bs) fs (W.setCell ⟨b, k, none⟩ v) := by
  have hge := (h.bl (b, .cells vs T fr) (by simp)).2
  have hb : Below w0.heap.size W (W.setCell ⟨b, k, none⟩ v) := (Below.refl _ _).setCell hge v
  have hn := h.nd
  simp only [List.map_cons, List.nodup_cons] at hn
  refine ⟨h.rd.keep h.lo hb, h.lo, ⟨hb.os.trans h.re.os, hb.tape.trans h.re.tape, hb.output.trans h.re.output, Nat.le_trans h.re.size hb.size, fun k hk hne => (hb.block k hk).trans (h.re.block k hk hne)⟩, fun x hx => ?_, ?_, fun f hf => ?_⟩
  · rcases List.mem_cons.1 hx with rfl | hx
    · exact ⟨heap_set h.hd k v, hge⟩
    · have h2 := h.bl x (List.mem_cons_of_mem _ hx)
      refine ⟨?_, h2.2⟩
      rw [Below.heap_setCell _ _ _ _ (fun e => hn.1 (List.mem_map.2 ⟨x, hx, e⟩))]
      exact h2.1
  · simp only [List.map_cons, List.nodup_cons]
    exact hn
  · refine f.mono (fun a ha => ⟨ha.1, Nat.lt_of_lt_of_le ha.2.1 hb.size, fun x hx => ?_⟩) (f.keep (S := fun a => w0.heap.size ≤ a ∧ a < W.heap.size ∧ ∀ x ∈ (b, Obj.cells vs T fr) :: bs, a ≠ x.1) (fun a o u ha hc => ?_) (h.ft f hf))
    · rcases List.mem_cons.1 hx with rfl | hx
      · exact ha.2.2 (b, .cells vs T fr) (by simp)
      · exact ha.2.2 x (List.mem_cons_of_mem _ hx)
    · have hne : a ≠ b := ha.2.2 (b, .cells vs T fr) (by simp)
      exact (World.cell?_of_block (w := W) (a := ⟨a, o, none⟩) (Below.heap_setCell _ _ _ _ hne)).trans hc
theorem Fr.call {c : Rc} {w0 W w' : World} {i j : Nat} {bs : List (Nat × Obj)} {fs : List Fact} (h : Fr c w0 i bs fs W) (hre : RE c.rb W w') (hR : Rd c j w') : Fr c w0 j bs fs w' := by
  refine ⟨hR, h.lo, h.re.trans hre, fun x hx => ⟨hre.blk (h.bl x hx).1 (fun e => by have := h.lo.rb; have := (h.bl x hx).2; omega), (h.bl x hx).2⟩, h.nd, fun f hf => ?_⟩
  refine f.mono (fun b hk => ⟨hk.1, Nat.lt_of_lt_of_le hk.2.1 hre.size, hk.2.2⟩) (f.keep (fun a o u ha hc => hre.kps a o u (fun e => ?_) hc) (h.ft f hf))
  have := h.lo.rb; have := ha.1; omega
theorem Fr.fact {c : Rc} {w0 W w' : World} {i j : Nat} {bs : List (Nat × Obj)} {fs : List Fact} (h : Fr c w0 i bs fs W) (hre : RE c.rb W w') (hR : Rd c j w') (f : Fact) (hf : f.P (fun b => W.heap.size ≤ b) w') : Fr c w0 j bs (f :: fs) w' := by
  refine (h.call hre hR).add f (f.mono (fun b hb => ⟨Nat.le_trans h.re.size hb.1, hb.2, fun x hx e => ?_⟩) (f.there hf))
  have := cells_lt (h.bl x hx).1
  have := hb.1
  omega
theorem Fr.fct {c : Rc} {w0 W : World} {i : Nat} {bs : List (Nat × Obj)} {fs : List Fact} (h : Fr c w0 i bs fs W) {f : Fact} (hf : f ∈ fs) : f.P (fun b => w0.heap.size ≤ b) W := f.mono (fun _ hb => hb.1) (h.ft f hf)
theorem row_nil (w : World) (S : Nat → Prop) : RowAt w S none 0 0 [] := ⟨Nat.le_refl _, by decide, fun _ => rfl, fun j u hj => by simp at hj⟩
/-- a row made of one expression -/
theorem Fr.row1 {c : Rc} {w0 W : World} {i : Nat} {bs : List (Nat × Obj)} {fs : List Fact} (h : Fr c w0 i bs fs W) (e : Ex) (T : TypeId) (he : Fact.X e ∈ fs) : Fr c w0 i bs (Fact.Xs [e] (some ⟨W.heap.size, 0, none⟩) 1 :: fs) (W.alloc (.cells ⟨exCells [e]⟩ T)) := by
  have hb : Below W.heap.size W (W.alloc (.cells ⟨exCells [e]⟩ T)) := (Below.refl _ _).alloc (Nat.le_refl _) _
  have h1 := h.ext hb
  refine h1.add _ ⟨row_new (Nat.le_refl _) (by decide) ⟨h.re.size, by simp, fun x hx hh => ?_⟩ (World.alloc_heap_new W _), ?_⟩
  · have := cells_lt (h.bl x hx).1; omega
  · unfold Ex.InL Ex.InL
    exact ⟨h1.ft _ he, trivial⟩
theorem Fr.row2 {c : Rc} {w0 W : World} {i : Nat} {bs : List (Nat × Obj)} {fs : List Fact} (h : Fr c w0 i bs fs W) (e e2 : Ex) (T : TypeId) (he : Fact.X e ∈ fs) (he2 : Fact.X e2 ∈ fs) : Fr c w0 i bs (Fact.Xs [e, e2] (some ⟨W.heap.size, 0, none⟩) 2 :: fs) (W.alloc (.cells ⟨exCells [e, e2]⟩ T)) := by
  have hb : Below W.heap.size W (W.alloc (.cells ⟨exCells [e, e2]⟩ T)) := (Below.refl _ _).alloc (Nat.le_refl _) _
  have h1 := h.ext hb
  refine h1.add _ ⟨row_new (Nat.le_refl _) (by decide) ⟨h.re.size, by simp, fun x hx hh => ?_⟩ (World.alloc_heap_new W _), ?_⟩
  · have := cells_lt (h.bl x hx).1; omega
  · unfold Ex.InL Ex.InL Ex.InL
    exact ⟨h1.ft _ he, h1.ft _ he2, trivial⟩
/-- eight stores into the first own block -/
theorem Fr.set8 {c : Rc} {w0 W : World} {i g : Nat} {a0 b0 c0 d0 e0 f0 g0 h0 : Value} {T : TypeId} {fr : Nat × Nat} {bs : List (Nat × Obj)} {fs : List Fact} (h : Fr c w0 i ((g, .cells #[a0, b0, c0, d0, e0, f0, g0, h0] T fr) :: bs) fs W) (a b cc d e f gg hh : Value) :
    Fr c w0 i ((g, .cells #[a, b, cc, d, e, f, gg, hh] T fr) :: bs) fs ((((((((W.setCell ⟨g, 0, none⟩ a).setCell ⟨g, 1, none⟩ b).setCell ⟨g, 2, none⟩ cc).setCell ⟨g, 3, none⟩ d).setCell ⟨g, 4, none⟩ e).setCell ⟨g, 5, none⟩ f).setCell ⟨g, 6, none⟩ gg).setCell ⟨g, 7, none⟩ hh) := by
  have := (((((((h.set 0 a).set 1 b).set 2 cc).set 3 d).set 4 e).set 5 f).set 6 gg).set 7 hh
  simpa using this
theorem Fr.set6 {c : Rc} {w0 W : World} {i g : Nat} {a0 b0 c0 d0 e0 f0 : Value} {T : TypeId} {fr : Nat × Nat} {bs : List (Nat × Obj)} {fs : List Fact} (h : Fr c w0 i ((g, .cells #[a0, b0, c0, d0, e0, f0] T fr) :: bs) fs W) (a b cc d e f : Value) :
    Fr c w0 i ((g, .cells #[a, b, cc, d, e, f] T fr) :: bs) fs ((((((W.setCell ⟨g, 0, none⟩ a).setCell ⟨g, 1, none⟩ b).setCell ⟨g, 2, none⟩ cc).setCell ⟨g, 3, none⟩ d).setCell ⟨g, 4, none⟩ e).setCell ⟨g, 5, none⟩ f) := by
  have := (((((h.set 0 a).set 1 b).set 2 cc).set 3 d).set 4 e).set 5 f
  simpa using this
theorem Fr.set5 {c : Rc} {w0 W : World} {i g : Nat} {a0 b0 c0 d0 e0 : Value} {T : TypeId} {fr : Nat × Nat} {bs : List (Nat × Obj)} {fs : List Fact} (h : Fr c w0 i ((g, .cells #[a0, b0, c0, d0, e0] T fr) :: bs) fs W) (a b cc d e : Value) :
    Fr c w0 i ((g, .cells #[a, b, cc, d, e] T fr) :: bs) fs (((((W.setCell ⟨g, 0, none⟩ a).setCell ⟨g, 1, none⟩ b).setCell ⟨g, 2, none⟩ cc).setCell ⟨g, 3, none⟩ d).setCell ⟨g, 4, none⟩ e) := by
  have := ((((h.set 0 a).set 1 b).set 2 cc).set 3 d).set 4 e
  simpa using this

/-! ### how calls end -/
theorem Post.two {α : Type} {c : Rc} {V : α → Value → World → Prop} {W w' : World} {r : Res α} {e : Ending} (h : Post c V W r e w') :
    (∃ p, r = .bad p ∧ e = badE p ∧ RE c.rb W w') ∨ ∃ x j v, r = .ok x j ∧ e = .returned v ∧ V x v w' ∧ Rd c j w' ∧ RE c.rb W w' := by
  cases r with
  | ok x j => obtain ⟨v, h1, h2, h3, h4⟩ := h; exact .inr ⟨x, j, v, rfl, h1, h2, h3, h4⟩
  | bad p => exact .inl ⟨p, rfl, h.1, h.2⟩
theorem Rd.tok {c : Rc} {i : Nat} {w : World} (h : Rd c i w) : ∃ t, c.l[i]? = some t ∧ tx c.l i = t.txt ∧ ps c.l i = t.pos ∧ kd c.l i = t.kind := by
  have ht : c.l[i]? = some (c.l[i]'h.lt) := List.getElem?_eq_getElem h.lt
  exact ⟨_, ht, tx_of ht, ps_of ht, kd_of ht⟩
theorem at_c {c : Rc} {i : Nat} {w : World} (h : Rd c i w) : Calls Tryz.prog 152 #[.pointer (some ⟨c.rb, 0, none⟩)] w fun e w' => e = .returned (.int .i64 (ps c.l i)) ∧ ∃ n, w' = w.drewN n := by
  obtain ⟨t, ht, h1, h2, h3⟩ := h.tok
  rw [h2]
  exact at_any c i t w h ht
theorem refuse_c {c : Rc} {i : Nat} {w : World} (h : Rd c i w) : Calls Tryz.prog 154 #[.pointer (some ⟨c.rb, 0, none⟩)] w fun e w' => e = badE (ps c.l i) ∧ ∃ n, w' = w.drewN n := by
  obtain ⟨t, ht, h1, h2, h3⟩ := h.tok
  rw [h2]
  exact refuse_any c i t w h ht
theorem take_c {c : Rc} {i : Nat} {w : World} (h : Rd c i w) (s : ByteArray) (hs : s ≠ ⟨#[]⟩) : Calls Tryz.prog 143 #[.pointer (some ⟨c.rb, 0, none⟩), .string s] w (Post c (fun _ v _ => v = .tuple #[]) w (takeR c.l i s)) := by
  obtain ⟨t, ht, h1, h2, h3⟩ := h.tok
  unfold takeR
  rw [h1, h2]
  by_cases hx : t.txt = s
  · rw [if_pos hx]
    subst hx
    refine (take_yes c i t w h ht (h.more ht hs)).mono ?_
    rintro e w' ⟨rfl, hR, hE⟩
    exact ⟨_, rfl, rfl, hR, hE⟩
  · rw [if_neg hx]
    refine (take_no c i t s w h ht hx).mono ?_
    rintro e w' ⟨rfl, n, rfl⟩
    exact ⟨rfl, RE.drewN w n⟩
theorem passes_c {c : Rc} {i : Nat} {w : World} (h : Rd c i w) (s : ByteArray) (hs : s ≠ ⟨#[]⟩) : Calls Tryz.prog 144 #[.pointer (some ⟨c.rb, 0, none⟩), .string s] w fun e w' =>
    RE c.rb w w' ∧ ((tx c.l i = s ∧ e = .returned (.bool true) ∧ Rd c (i + 1) w') ∨ (¬ tx c.l i = s ∧ e = .returned (.bool false) ∧ Rd c i w')) := by
  obtain ⟨t, ht, h1, h2, h3⟩ := h.tok
  rw [h1]
  by_cases hx : t.txt = s
  · subst hx
    refine (passes_yes c i t w h ht (h.more ht hs)).mono ?_
    rintro e w' ⟨rfl, hR, hE⟩
    exact ⟨hE, .inl ⟨rfl, rfl, hR⟩⟩
  · refine (passes_no c i t s w h ht hx).mono ?_
    rintro e w' ⟨rfl, n, rfl⟩
    exact ⟨RE.drewN w n, .inr ⟨hx, rfl, h.drewN n⟩⟩
theorem name_c {c : Rc} {i : Nat} {w : World} (h : Rd c i w) : Calls Tryz.prog 142 #[.pointer (some ⟨c.rb, 0, none⟩)] w (Post c (fun x v _ => v = .string x ∧ x.size ≤ maxLen) w (nameR c.l i)) := by
  obtain ⟨t, ht, h1, h2, h3⟩ := h.tok
  unfold nameR
  rw [h1, h2]
  cases hn : nme t.txt.data.toList with
  | true =>
    rw [if_pos rfl]
    have hne : ¬ t.txt = ⟨#[]⟩ := fun e => by rw [e] at hn; exact absurd hn (by decide)
    refine (name_yes c i t w h ht (h.more ht hne) hn).mono ?_
    rintro e w' ⟨rfl, hR, hE⟩
    exact ⟨_, rfl, ⟨rfl, by have := (h.txs t (List.mem_of_getElem? ht)).1; unfold maxLen; omega⟩, hR, hE⟩
  | false =>
    rw [if_neg (by decide)]
    refine (name_no c i t w h ht hn).mono ?_
    rintro e w' ⟨rfl, hE⟩
    exact ⟨rfl, hE⟩
theorem parse_i64 {l : List UInt8} {n : Int} (h : Lib.parseIntB 64 l = .ok n) : I64 n := by
  unfold Lib.parseIntB at h
  cases l with
  | nil => cases h
  | cons a r =>
    simp only at h
    split at h
    · cases h
    · cases h
    · rename_i u hu
      by_cases hneg : a.toNat = 45
      · simp only [hneg, not_true, false_and, if_false, true_and] at h
        split at h
        · cases h
        · rename_i hx
          simp only [if_true, Lib.NumEnd.ok.injEq] at h
          unfold I64
          omega
      · simp only [hneg, not_false_iff, true_and, false_and, if_false] at h
        split at h
        · cases h
        · rename_i hx
          simp only [Lib.NumEnd.ok.injEq] at h
          unfold I64
          omega
theorem number_c {c : Rc} {i : Nat} {w : World} (h : Rd c i w) (s : ByteArray) (hs : s.size ≤ 10) : Calls Tryz.prog 145 #[.pointer (some ⟨c.rb, 0, none⟩), .string s] w (Post c (fun x v _ => v = .int .i64 x ∧ I64 x) w (numR c.l i s)) := by
  obtain ⟨t, ht, h1, h2, h3⟩ := h.tok
  unfold numR
  rw [h1, h2, h3]
  have happ : (s ++ t.txt).data.toList = s.data.toList ++ t.txt.data.toList := by simp
  cases hn : Lib.parseIntB 64 (s.data.toList ++ t.txt.data.toList)
  case ok n =>
    simp only
    by_cases hk : t.kind = 2
    · rw [if_pos hk]
      have hmore : i + 1 < c.l.length := by
        by_cases he : i + 1 = c.l.length
        · have := (h.last i t ht he).2; omega
        · have := h.lt; omega
      refine (number_ok c i t s w h ht hs hmore hk n (by rw [happ]; exact hn)).mono ?_
      rintro e w' ⟨rfl, hR, hE⟩
      exact ⟨_, rfl, ⟨rfl, parse_i64 hn⟩, hR, hE⟩
    · rw [if_neg hk]
      refine (number_kind c i t s w h ht hs hk n (by rw [happ]; exact hn)).mono ?_
      rintro e w' ⟨rfl, hE⟩
      exact ⟨rfl, hE⟩
  all_goals
    refine (number_bad c i t s w h ht hs (by rw [happ, hn]; intro n e; cases e)).mono ?_
    rintro e w' ⟨rfl, hE⟩
    exact ⟨rfl, hE⟩
end Go.Proofs.YtpcdlneompnhlaaGreatDoor.Pa
