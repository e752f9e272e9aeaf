/- A graph with a way less, in the making. Conditions: none. -/
import Derived.Test.YtiaecobjbckhoaaDoI
import Derived.Test.YtiaecobjbckhoaaDoB
import Derived.Test.YtiaecobjbckhoaaDbE
set_option linter.unusedVariables false
set_option linter.unusedSimpArgs false
namespace Go.Proofs.Ytiaecobjbckhoaa.Db
open Go Go.RowKit
open Go.WideShapes Go.MapKept
open Go.Proofs.Ytiaecobjbckhoaa.Qr Go.Proofs.Ytiaecobjbckhoaa.Vq Go.Proofs.Ytiaecobjbckhoaa.QrS

theorem Ask.mono2 {tb : Nat} {t : Tp} {w1 w2 : World} (h : Ask tb t w1) (hb : Below w1.heap.size w1 w2) : Ask tb t w2 := by
  have k : ∀ V, Hid (Below w2.heap.size w2 V) → Hid (Below w1.heap.size w1 V) := fun V h2 => Lib.hid (hb.trans (h2.out.mono hb.size))
  refine ⟨fun x V h2 => h.re x V (k V h2), fun x V h2 => h.nx x V (k V h2), fun x y V h2 => (h.ab x y V (k V h2)).mono ?_, fun x V h2 => h.ki x V (k V h2), fun V h2 => h.od V (k V h2), fun x y V h2 => h.abq x y V (k V h2)⟩
  rintro e w' ⟨he, h3, h4⟩
  exact ⟨he, h3, Lib.hid (h2.out.trans (h3.out.1.mono h2.out.size))⟩
/-- a row is appended to a row of the call's own -/
theorem p_appR {a : Act} {o : Oper} {s x : Operand} {B n m cap size bytes : Nat} {ad : Addr} {t e : TypeId} {i0 : TypeInfo} {z0 fv : Value} {xs news : List Value} {w : World} {K : Act → World → Prop} {Q : Exit → Act → World → Prop}
    (ho : o.op = .call { callee := .builtin .append, args := #[s, x], argTypes := #[t, t] }) (ht : Try.prog.underlying t = some (.slice e)) (hi0 : Try.prog.info? e = some i0) (hz0 : i0.zero = some z0) (hz1 : i0.size = size) (hz2 : i0.bytes = bytes) (hz3 : z0.cells.size = size) (hsz : 0 < size)
    (hs : a.eval s = fv) (hx : a.eval x = .slice (some ad) m cap) (hown : w.ownsRow B e size fv n xs) (hl : news.length = m * size) (hq : ∀ j u, news[j]? = some u → w.cell? (ad.add j) = some u) (h1 : ∀ u ∈ news, u.oneCell' = true)
    (hn : n + m ≤ 1048577) (hby : bytes ≤ 128) (hB : B ≤ w.heap.size) (h : ∀ v' w', w'.ownsRow B e size v' (n + m) (xs ++ news) → w.grownBy w' fv.ownBlock → (v'.ownBlock = fv.ownBlock ∨ v'.ownBlock = some w.heap.size) → K (a.put o.dst v') w') : o.wp Try.prog a w K Q := by
  obtain ⟨v', w', hr, h2, h3, h4, h5⟩ := run_append_own_at (P := Try.prog) w B t o.type e i0 z0 size bytes ht hi0 hz0 hz1 hz2 hz3 hsz fv n xs hown ad m cap news hl hq h1 (by unfold maxLen; omega) (Nat.le_trans (Nat.mul_le_mul hn hby) (by omega)) hB
  unfold Oper.wp execOp
  simp only [ho, resolve, invoke, builtin, Sem.run_bind, Sem.run_pure, Result.andThen_ok, List.map_toArray, List.map_cons, List.map_nil, hs, hx, hr]
  exact h _ _ h2 h3 h5
theorem lit_int (V : World) : (Instr.buildSlice 33 0 #[]).run Try.prog V = .ok (.slice (some ⟨V.heap.size, 0, none⟩) 0 0) (V.alloc (.cells #[] 3)) := by kernel_rfl
theorem lit_own (V : World) (B : Nat) (hB : B ≤ V.heap.size) : (V.alloc (.cells #[] 3)).ownsRow B 3 1 (.slice (some ⟨V.heap.size, 0, none⟩) 0 0) 0 [] :=
  ⟨rfl, .inr ⟨V.heap.size, 0, #[], rfl, hB, blk_new V _ rfl, Nat.le_refl _, by unfold maxLen; omega, rfl, rfl⟩⟩
theorem run_slHi {P : Program} {a : Act} {o : Oper} {t : TypeId} {x z : Operand} {u r q : Value} {w w' : World} (ho : o.op = .slice t x none (some z) none) (hx : a.eval x = u) (hz : a.eval z = q) (hr : (Instr.sliceAt t u none (some q) none).run P w = .ok r w') : (execOp a.eval o).run P w = .ok (.value r) w' := by
  subst hx hz
  unfold execOp
  simp [ho, hr]
theorem run_slLo {P : Program} {a : Act} {o : Oper} {t : TypeId} {x y : Operand} {u v r : Value} {w w' : World} (ho : o.op = .slice t x (some y) none none) (hx : a.eval x = u) (hy : a.eval y = v) (hr : (Instr.sliceAt t u (some v) none none).run P w = .ok r w') : (execOp a.eval o).run P w = .ok (.value r) w' := by
  subst hx hy
  unfold execOp
  simp [ho, hr]
theorem sl_hi {V : World} {a : Addr} {n cap hi : Nat} (h2 : hi ≤ cap) (h0 : 0 < cap) : (Instr.sliceAt 33 (.slice (some a) n cap) none (some (.int .i64 (hi : Int))) none).run Try.prog V = .ok (.slice (some (a.add 0)) hi cap) V := by
  have e1 : (0 : Int) ≤ (hi : Int) := by omega
  have e3 : (hi : Int) ≤ (cap : Int) := by omega
  have e4 : cap ≠ 0 := by omega
  have e5 : (0 : Int) ≤ (cap : Int) := by omega
  go_simp
theorem sl_lo {V : World} {a : Addr} {n cap lo : Nat} (h1 : lo ≤ n) (h2 : n ≤ cap) : (Instr.sliceAt 33 (.slice (some a) n cap) (some (.int .i64 (lo : Int))) none none).run Try.prog V = .ok (.slice (some (if cap = lo then a else a.add lo)) (n - lo) (cap - lo)) V := by
  have e1 : (0 : Int) ≤ (lo : Int) := by omega
  have e2 : (lo : Int) ≤ (n : Int) := by omega
  have e3 : (n : Int) ≤ (cap : Int) := by omega
  have e4 : (lo : Int) ≤ (cap : Int) := by omega
  by_cases e : cap = lo
  · go_simp
  · go_simp
end Go.Proofs.Ytiaecobjbckhoaa.Db
