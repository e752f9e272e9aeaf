/- Walk of maps.Clone, at the map of types. Conditions: the map lies in memory. -/
import Derived.Test.YtjpmgnpjdikdnaaGreatDoorTyG
import Derived.Laws.Externs
import Derived.Shelf.SlMaps.Clone
namespace Go.Proofs.YtjpmgnpjdikdnaaGreatDoor.Ty
open Go Go.RowKit
open Go.Proofs.YtjpmgnpjdikdnaaGreatDoor.Lx Go.Proofs.YtjpmgnpjdikdnaaGreatDoor.Tr

set_option maxHeartbeats 2000000 in
set_option maxRecDepth 100000 in
theorem clone_c (w : World) (b : Nat) (es : Array MapEntry) (clock : Nat) (hb : w.heap[b]? = some (.map es clock)) :
    Calls Tryz.prog 237 #[.map (some b)] w fun e w' => e = .returned (.map (some w.heap.size)) ∧ w' = w.alloc (.map es clock) := by
  have hq := fun w => run_eql_map_nil_sl (P := Tryz.prog) w 159 _ _ (some b) Tryz.underlying159
  go_enter Tryz.func237, Tryz.ntmps237
  go_wp2
  rw [run_callFunc_extern Tryz.func248 (by kernel_rfl) (by kernel_rfl) (by kernel_rfl) (e := Extern.MapsClone.clone) (by kernel_rfl), run_maps_clone_sl w 159 hb]
  simp only [Result.andThen]
  rw [Oper.upon_value]
  go_wp2
  rw [run_typeAssert_map_sl _ 159 _ _ _ _ Tryz.underlying159]
  simp only [Result.andThen]
  rw [Oper.upon_value]
  go_wp2
  go_ret
  exact ⟨rfl, rfl⟩
end Go.Proofs.YtjpmgnpjdikdnaaGreatDoor.Ty
