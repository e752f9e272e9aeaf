/- Programs, Funs and instructions by what they say, their lists lying anywhere: what may be hangs not on where they lie; values that say them, and how they are made. Conditions: none. -/
import Derived.Test.YtiicjbnocpphdaaDoorCnS
namespace Go.Proofs.YtiicjbnocpphdaaDoor.Cd
open Go Go.RowKit
open Go.Proofs.YtiicjbnocpphdaaDoor.Lx Go.Proofs.YtiicjbnocpphdaaDoor.Tr
open Go.Proofs.YtiicjbnocpphdaaDoor.Vq Go.Proofs.YtiicjbnocpphdaaDoor.Qr

/-! ### without addresses -/
def Ins.er (i : Ins) : Ins := { i with aa := none, acap := 0 }
def Fn.er (f : Fn) : Fn := { f with ca := none, ccap := 0, code := f.code.map Ins.er }
def Pg.er (p : Pg) : Pg := ⟨none, 0, p.mems, none, 0, p.locks, none, 0, p.funs.map Fn.er⟩
theorem mayF_ier (p : Pg) (f : Fn) (i : Ins) : mayF p f i.er = mayF p f i := by cases i; rfl
theorem face_er (f : Fn) : faceP f.er = faceP f := by cases f; rfl
theorem alike_er (p : Pg) : Alike p.er p := ⟨rfl, rfl, by
  show (p.funs.map Fn.er).map faceP = p.funs.map faceP
  rw [List.map_map]
  exact List.map_congr_left (fun f _ => face_er f)⟩
theorem mayF_er (p : Pg) (f : Fn) (i : Ins) : mayF p.er f.er i.er = mayF p f i := by
  rw [mayF_ier]
  exact mayF_alike (f := f.er) (g := f) (alike_er p) (by show (f.code.map Ins.er).length = _; rw [List.length_map]) rfl i
theorem lastOp_er (l : List Ins) : lastOp (l.map Ins.er) = lastOp l := by
  unfold lastOp
  rw [List.getLast?_map]
  cases l.getLast? <;> rfl
theorem codeP_er (p : Pg) (f : Fn) : codeP p.er f.er = codeP p f := by
  unfold codeP
  show (decide (1 ≤ (f.code.map Ins.er).length) && decide ((f.code.map Ins.er).length ≤ 16384) && (f.code.map Ins.er).all (mayF p.er f.er) && (decide (lastOp (f.code.map Ins.er) = 11) || decide (lastOp (f.code.map Ins.er) = 13))) = _
  rw [List.length_map, lastOp_er, List.all_map]
  have : (mayF p.er f.er ∘ Ins.er) = mayF p f := funext fun i => mayF_er p f i
  rw [this]
theorem mayP_er (p : Pg) : mayP p.er = mayP p := by
  have hn : namesP p.er = namesP p := by
    show p.mems.map Mm.name ++ (p.locks ++ (p.funs.map Fn.er).map Fn.name) = _
    rw [List.map_map]
    rfl
  have ht : thrsP p.er = thrsP p := thrs_map _ _ 0 (alike_er p).funs
  have hh : p.er.funs.all headP = p.funs.all headP := by
    show (p.funs.map Fn.er).all headP = _
    rw [List.all_map]
    rfl
  have hc : p.er.funs.all (codeP p.er) = p.funs.all (codeP p) := by
    show (p.funs.map Fn.er).all (codeP p.er) = _
    rw [List.all_map]
    have : (codeP p.er ∘ Fn.er) = codeP p := funext fun f => codeP_er p f
    rw [this]
  unfold mayP mayNamesP
  rw [hn, ht, hh, hc]
  rfl
theorem mayP_of_er {p q : Pg} (h : p.er = q) : mayP p = mayP q := by rw [← h, mayP_er]
theorem mayI_er (p : Pg) (n : Int) (i : Ins) : mayI p.er n i.er = mayI p n i := by
  unfold mayI
  show (if inP n (p.funs.map Fn.er).length = true then match (p.funs.map Fn.er)[n.toNat]? with | some f => mayF p.er f i.er | none => false else false) = _
  rw [List.length_map, List.getElem?_map]
  cases p.funs[n.toNat]? with
  | none => rfl
  | some f =>
    show (if _ then mayF p.er f.er i.er else false) = _
    rw [mayF_er]

/-! ### what a value says -/
def VI (x : Ins) (v : Value) (w : World) : Prop := ∃ j : Ins, j.er = x ∧ v = .agg ⟨j.vals⟩ ∧ Ins.In w (fun _ => True) j
def VF (x : Fn) (v : Value) (w : World) : Prop := ∃ j : Fn, j.er = x ∧ v = .agg ⟨j.vals⟩ ∧ Fn.In w (fun _ => True) j
def VP (x : Pg) (v : Value) (w : World) : Prop := ∃ j : Pg, j.er = x ∧ v = .agg ⟨j.vals⟩ ∧ Pg.In w (fun _ => True) j
def VNs (xs : List Int) (v : Value) (w : World) : Prop := ∃ a cap, v = .slice a xs.length cap ∧ RowAt w (fun _ => True) a cap xs.length (numCells xs) ∧ ∀ x ∈ xs, I64 x
def VSs (xs : List ByteArray) (v : Value) (w : World) : Prop := ∃ a cap, v = .slice a xs.length cap ∧ RowAt w (fun _ => True) a cap xs.length (strCells xs) ∧ ∀ x ∈ xs, x.size ≤ maxLen
def VMs (xs : List Mm) (v : Value) (w : World) : Prop := ∃ a cap, v = .slice a xs.length cap ∧ RowAt w (fun _ => True) a cap xs.length (mmCells xs) ∧ ∀ x ∈ xs, x.In
def VIs (xs : List Ins) (v : Value) (w : World) : Prop := ∃ (l : List Ins) (a : Option Addr) (cap : Nat), l.map Ins.er = xs ∧ v = .slice a l.length cap ∧ RowAt w (fun _ => True) a cap l.length (inCells l) ∧ ∀ i ∈ l, Ins.In w (fun _ => True) i
def VFs (xs : List Fn) (v : Value) (w : World) : Prop := ∃ (l : List Fn) (a : Option Addr) (cap : Nat), l.map Fn.er = xs ∧ v = .slice a l.length cap ∧ RowAt w (fun _ => True) a cap l.length (fnCells l) ∧ ∀ i ∈ l, Fn.In w (fun _ => True) i
def pgCells (l : List Pg) : List Value := l.flatMap Pg.vals
def VPs (xs : List Pg) (v : Value) (w : World) : Prop := ∃ (l : List Pg) (a : Option Addr) (cap : Nat), l.map Pg.er = xs ∧ v = .slice a l.length cap ∧ RowAt w (fun _ => True) a cap l.length (pgCells l) ∧ ∀ i ∈ l, Pg.In w (fun _ => True) i
theorem VI.mono {x : Ins} : Mono (VI x) := fun _ _ _ hb ⟨j, h1, h2, h3⟩ => ⟨j, h1, h2, h3.below (Kps.of_below hb)⟩
theorem VF.mono {x : Fn} : Mono (VF x) := fun _ _ _ hb ⟨j, h1, h2, h3⟩ => ⟨j, h1, h2, h3.below (Kps.of_below hb)⟩
theorem VP.mono {x : Pg} : Mono (VP x) := fun _ _ _ hb ⟨j, h1, h2, h3⟩ => ⟨j, h1, h2, h3.below (Kps.of_below hb)⟩
theorem VNs.mono {x : List Int} : Mono (VNs x) := fun _ _ _ hb ⟨a, c, h1, h2, h3⟩ => ⟨a, c, h1, h2.below (Kps.of_below hb), h3⟩
theorem VSs.mono {x : List ByteArray} : Mono (VSs x) := fun _ _ _ hb ⟨a, c, h1, h2, h3⟩ => ⟨a, c, h1, h2.below (Kps.of_below hb), h3⟩
theorem VMs.mono {x : List Mm} : Mono (VMs x) := fun _ _ _ hb ⟨a, c, h1, h2, h3⟩ => ⟨a, c, h1, h2.below (Kps.of_below hb), h3⟩
theorem VIs.mono {x : List Ins} : Mono (VIs x) := fun _ _ _ hb ⟨l, a, c, h0, h1, h2, h3⟩ => ⟨l, a, c, h0, h1, h2.below (Kps.of_below hb), fun i hi => (h3 i hi).below (Kps.of_below hb)⟩
theorem VFs.mono {x : List Fn} : Mono (VFs x) := fun _ _ _ hb ⟨l, a, c, h0, h1, h2, h3⟩ => ⟨l, a, c, h0, h1, h2.below (Kps.of_below hb), fun i hi => (h3 i hi).below (Kps.of_below hb)⟩
theorem VPs.mono {x : List Pg} : Mono (VPs x) := fun _ _ _ hb ⟨l, a, c, h0, h1, h2, h3⟩ => ⟨l, a, c, h0, h1, h2.below (Kps.of_below hb), fun i hi => (h3 i hi).below (Kps.of_below hb)⟩
/-! ### parts put together -/
theorem nums_nil {w : World} : VNs [] (.slice none 0 0) w := ⟨none, 0, rfl, row_none _ _, fun x hx => by cases hx⟩
theorem strs_nil {w : World} : VSs [] (.slice none 0 0) w := ⟨none, 0, rfl, row_none _ _, fun x hx => by cases hx⟩
theorem mms_nil {w : World} : VMs [] (.slice none 0 0) w := ⟨none, 0, rfl, row_none _ _, fun x hx => by cases hx⟩
theorem inss_nil {w : World} : VIs [] (.slice none 0 0) w := ⟨[], none, 0, rfl, rfl, row_none _ _, fun x hx => by cases hx⟩
theorem fns_nil {w : World} : VFs [] (.slice none 0 0) w := ⟨[], none, 0, rfl, rfl, row_none _ _, fun x hx => by cases hx⟩
theorem mk_in {w : World} {op r a b n : Int} {xs : List Int} {v : Value} (h0 : U8 op) (h1 : I64 r) (h2 : I64 a) (h3 : I64 b) (h4 : I64 n) (hv : VNs xs v w) :
    VI ⟨op, r, a, b, n, none, 0, xs⟩ (.agg #[.int .u8 op, .int .i64 r, .int .i64 a, .int .i64 b, .int .i64 n, v]) w := by
  obtain ⟨x, c, rfl, h5, h6⟩ := hv
  exact ⟨⟨op, r, a, b, n, x, c, xs⟩, rfl, rfl, ⟨h0, h1, h2, h3, h4, h5, h6⟩⟩
theorem mk_fn {w : World} {nm : ByteArray} {th : Bool} {ps rs : Int} {xs : List Ins} {v : Value} (h0 : nm.size ≤ maxLen) (h1 : I64 ps) (h2 : I64 rs) (hv : VIs xs v w) :
    VF ⟨nm, th, ps, rs, none, 0, xs⟩ (.agg #[.string nm, .bool th, .int .i64 ps, .int .i64 rs, v]) w := by
  obtain ⟨l, x, c, rfl, rfl, h5, h6⟩ := hv
  exact ⟨⟨nm, th, ps, rs, x, c, l⟩, rfl, rfl, ⟨h0, h1, h2, h5, h6⟩⟩
theorem mk_pg {w : World} {ms : List Mm} {ls : List ByteArray} {fs : List Fn} {v1 v2 v3 : Value} (h1 : VMs ms v1 w) (h2 : VSs ls v2 w) (h3 : VFs fs v3 w) :
    VP ⟨none, 0, ms, none, 0, ls, none, 0, fs⟩ (.agg #[v1, v2, v3]) w := by
  obtain ⟨a1, c1, rfl, r1, i1⟩ := h1
  obtain ⟨a2, c2, rfl, r2, i2⟩ := h2
  obtain ⟨l3, a3, c3, rfl, rfl, r3, i3⟩ := h3
  exact ⟨⟨a1, c1, ms, a2, c2, ls, a3, c3, l3⟩, rfl, rfl, ⟨r1, i1, r2, i2, r3, i3⟩⟩
/-! ### lists made anew -/
theorem row_nw {w : World} (vs : List Value) (T : TypeId) (n : Nat) (hn : n ≤ 100000) : RowAt (w.alloc (.cells ⟨vs⟩ T)) (fun _ => True) (some ⟨w.heap.size, 0, none⟩) n n vs := row_blk n (World.alloc_heap_new w _) hn trivial
theorem nums_new {w : World} {T : TypeId} (l : List Int) (hn : l.length ≤ 100000) (h : ∀ x ∈ l, I64 x) : VNs l (.slice (some ⟨w.heap.size, 0, none⟩) l.length l.length) (w.alloc (.cells ⟨numCells l⟩ T)) := ⟨_, _, rfl, row_nw _ _ _ hn, h⟩
theorem strs_new {w : World} {T : TypeId} (l : List ByteArray) (hn : l.length ≤ 100000) (h : ∀ x ∈ l, x.size ≤ maxLen) : VSs l (.slice (some ⟨w.heap.size, 0, none⟩) l.length l.length) (w.alloc (.cells ⟨strCells l⟩ T)) := ⟨_, _, rfl, row_nw _ _ _ hn, h⟩
theorem mms_new {w : World} {T : TypeId} (l : List Mm) (hn : l.length ≤ 100000) (h : ∀ x ∈ l, x.In) : VMs l (.slice (some ⟨w.heap.size, 0, none⟩) l.length l.length) (w.alloc (.cells ⟨mmCells l⟩ T)) := ⟨_, _, rfl, row_nw _ _ _ hn, h⟩
theorem inss_new {w : World} {T : TypeId} {xs : List Ins} (l : List Ins) (he : l.map Ins.er = xs) (hn : l.length ≤ 100000) (h : ∀ x ∈ l, Ins.In w (fun _ => True) x) : VIs xs (.slice (some ⟨w.heap.size, 0, none⟩) l.length l.length) (w.alloc (.cells ⟨inCells l⟩ T)) := ⟨l, _, _, he, rfl, row_nw _ _ _ hn, fun i hi => (h i hi).below (Kps.of_below (b_alloc _ _))⟩
theorem fns_new {w : World} {T : TypeId} {xs : List Fn} (l : List Fn) (he : l.map Fn.er = xs) (hn : l.length ≤ 100000) (h : ∀ x ∈ l, Fn.In w (fun _ => True) x) : VFs xs (.slice (some ⟨w.heap.size, 0, none⟩) l.length l.length) (w.alloc (.cells ⟨fnCells l⟩ T)) := ⟨l, _, _, he, rfl, row_nw _ _ _ hn, fun i hi => (h i hi).below (Kps.of_below (b_alloc _ _))⟩
theorem pgs_new {w : World} {T : TypeId} {xs : List Pg} (l : List Pg) (he : l.map Pg.er = xs) (hn : l.length ≤ 100000) (h : ∀ x ∈ l, Pg.In w (fun _ => True) x) : VPs xs (.slice (some ⟨w.heap.size, 0, none⟩) l.length l.length) (w.alloc (.cells ⟨pgCells l⟩ T)) := ⟨l, _, _, he, rfl, row_nw _ _ _ hn, fun i hi => (h i hi).below (Kps.of_below (b_alloc _ _))⟩
theorem Pg.vals_len (p : Pg) : p.vals.length = 3 := rfl
theorem pg_row {w : World} {S : Nat → Prop} {a : Option Addr} {cap : Nat} {l : List Pg} (h : RowAt w S a cap l.length (pgCells l)) (i : Nat) (e : Pg) (he : l[i]? = some e) :
    ∃ b off, a = some ⟨b, off, none⟩ ∧ S b ∧ w.cell? ⟨b, off + i * 3, none⟩ = some (.slice e.ma e.mems.length e.mcap) ∧ w.cell? ⟨b, off + i * 3 + 1, none⟩ = some (.slice e.la e.locks.length e.lcap) ∧ w.cell? ⟨b, off + i * 3 + 2, none⟩ = some (.slice e.fa e.funs.length e.fcap) := by
  obtain ⟨b, off, ha, hb, hcl⟩ := row_get Pg.vals 3 Pg.vals_len (by omega) h i e he
  refine ⟨b, off, ha, hb, ?_, ?_, ?_⟩
  · have := hcl 0 _ rfl; rwa [Nat.add_zero] at this
  · have := hcl 1 _ rfl; rwa [← Nat.add_assoc] at this
  · have := hcl 2 _ rfl; rwa [← Nat.add_assoc] at this
end Go.Proofs.YtiicjbnocpphdaaDoor.Cd
