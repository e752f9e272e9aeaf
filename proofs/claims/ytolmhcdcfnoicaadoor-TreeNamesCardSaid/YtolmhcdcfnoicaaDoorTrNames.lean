/- Walk of the statement TreeNames's function. Conditions: the package's tables hold their lists. -/
import Derived.Test.YtolmhcdcfnoicaaDoorTrR
import Derived.Test.YtolmhcdcfnoicaaDoorTrY
import Derived.Test.YtolmhcdcfnoicaaDoorOkN
import Derived.Test.YtolmhcdcfnoicaaDoorManyN
import Derived.Deep.RegionHeld3
import Derived.Deep.DrawnRows
import Derived.Deep.CutBlock
import Derived.Outline
namespace Go.Proofs.YtolmhcdcfnoicaaDoor.Tr
open Go Go.RowKit
open Go.Proofs.YtolmhcdcfnoicaaDoor.Lx
open Go.Proofs.YtolmhcdcfnoicaaDoor.Qg
open Go.Proofs.YtolmhcdcfnoicaaDoor.Qr

def nmz : Nat → ByteArray
  | 0 => ⟨#[110]⟩
  | k + 1 => nmz k ++ ⟨#[48]⟩
theorem nmz_size : ∀ k, (nmz k).size = k + 1
  | 0 => rfl
  | k + 1 => by unfold nmz; rw [ByteArray.size_append, nmz_size k]; rfl

theorem nmz_data : ∀ k, (nmz k).data.toList = 110 :: List.replicate k 48
  | 0 => rfl
  | k + 1 => by
    unfold nmz
    rw [ByteArray.data_append, Array.toList_append, nmz_data k, List.replicate_succ']
    rfl
def wl : List ByteArray := [⟨#[103, 108, 111, 98, 97, 108]⟩, ⟨#[97, 114, 114, 97, 121]⟩, ⟨#[108, 111, 99, 107]⟩, ⟨#[102, 117, 110, 99]⟩, ⟨#[116, 104, 114, 101, 97, 100]⟩, ⟨#[118, 97, 114]⟩, ⟨#[105, 102]⟩, ⟨#[101, 108, 115, 101]⟩, ⟨#[119, 104, 105, 108, 101]⟩, ⟨#[119, 105, 116, 104]⟩, ⟨#[112, 114, 105, 110, 116]⟩, ⟨#[99, 97, 108, 108]⟩, ⟨#[114, 101, 116, 117, 114, 110]⟩, ⟨#[116, 114, 117, 101]⟩, ⟨#[102, 97, 108, 115, 101]⟩, ⟨#[]⟩, ⟨#[48, 97]⟩, ⟨#[97, 45, 98]⟩, nmz 32]
theorem wl_no : ∀ s ∈ wl, nme s.data.toList = false ∧ s.size ≤ maxLen := by
  intro s hs
  unfold wl at hs
  simp only [List.mem_cons, List.mem_nil_iff, or_false] at hs
  have h32 : nme (nmz 32).data.toList = false := by rw [nmz_data]; rfl
  have hs32 : (nmz 32).size ≤ maxLen := by rw [nmz_size]; unfold maxLen; omega
  rcases hs with rfl | rfl | rfl | rfl | rfl | rfl | rfl | rfl | rfl | rfl | rfl | rfl | rfl | rfl | rfl | rfl | rfl | rfl | rfl <;> first | exact ⟨h32, hs32⟩ | exact ⟨by rfl, by unfold maxLen; decide⟩

def r13 : List (Value → World → Prop) := [VE (fun _ => True) (.mk 0 ⟨#[]⟩ 0 none 0 [] 0),
  VE (fun _ => True) (.mk 1 ⟨#[]⟩ (-1) none 0 [] 0),
  VE (fun _ => True) (.mk 2 ⟨#[]⟩ 2 none 0 [] 0),
  VE (fun _ => True) (.mk 3 ⟨#[]⟩ 0 none 0 [] 0),
  VE (fun _ => True) (.mk 1 ⟨#[]⟩ 1 none 0 [] 0),
  VE (fun _ => True) (.mk 1 ⟨#[]⟩ 1 none 0 [] 0),
  VEs (fun _ => True) [(.mk 1 ⟨#[]⟩ 1 none 0 [] 0), (.mk 1 ⟨#[]⟩ 1 none 0 [] 0)],
  VE (fun _ => True) (.mk 5 ⟨#[]⟩ 0 none 0 [(.mk 1 ⟨#[]⟩ 1 none 0 [] 0), (.mk 1 ⟨#[]⟩ 1 none 0 [] 0)] 0),
  VE (fun _ => True) (.mk 1 ⟨#[]⟩ 1 none 0 [] 0),
  VEs (fun _ => True) [(.mk 1 ⟨#[]⟩ 1 none 0 [] 0)],
  VE (fun _ => True) (.mk 7 ⟨#[]⟩ 0 none 0 [(.mk 1 ⟨#[]⟩ 1 none 0 [] 0)] 0),
  VE (fun _ => True) (.mk 1 ⟨#[97]⟩ 0 none 0 [] 0),
  VE (fun _ => True) (.mk 4 ⟨#[97]⟩ 0 none 0 [] 0),
  VE (fun _ => True) (.mk 1 ⟨#[]⟩ 1 none 0 [] 0),
  VE (fun _ => True) (.mk 1 ⟨#[]⟩ 1 none 0 [] 0),
  VEs (fun _ => True) [(.mk 1 ⟨#[]⟩ 1 none 0 [] 0), (.mk 1 ⟨#[]⟩ 1 none 0 [] 0)],
  VE (fun _ => True) (.mk 18 ⟨#[]⟩ 0 none 0 [(.mk 1 ⟨#[]⟩ 1 none 0 [] 0), (.mk 1 ⟨#[]⟩ 1 none 0 [] 0)] 0),
  VE (fun _ => True) (.mk 1 ⟨#[]⟩ 1 none 0 [] 0),
  VEs (fun _ => True) [(.mk 1 ⟨#[]⟩ 1 none 0 [] 0)],
  VE (fun _ => True) (.mk 6 ⟨#[]⟩ 1 none 0 [(.mk 1 ⟨#[]⟩ 1 none 0 [] 0)] 0),
  VEs (fun _ => True) [(.mk 0 ⟨#[]⟩ 0 none 0 [] 0), (.mk 1 ⟨#[]⟩ (-1) none 0 [] 0), (.mk 2 ⟨#[]⟩ 2 none 0 [] 0), (.mk 3 ⟨#[]⟩ 0 none 0 [] 0), (.mk 5 ⟨#[]⟩ 0 none 0 [(.mk 1 ⟨#[]⟩ 1 none 0 [] 0), (.mk 1 ⟨#[]⟩ 1 none 0 [] 0)] 0), (.mk 7 ⟨#[]⟩ 0 none 0 [(.mk 1 ⟨#[]⟩ 1 none 0 [] 0)] 0), (.mk 1 ⟨#[97]⟩ 0 none 0 [] 0), (.mk 4 ⟨#[97]⟩ 0 none 0 [] 0), (.mk 18 ⟨#[]⟩ 0 none 0 [(.mk 1 ⟨#[]⟩ 1 none 0 [] 0), (.mk 1 ⟨#[]⟩ 1 none 0 [] 0)] 0), (.mk 6 ⟨#[]⟩ 1 none 0 [(.mk 1 ⟨#[]⟩ 1 none 0 [] 0)] 0)],
  VK (.int .i64 10),
  VK (.int .i64 0)]
theorem r13_mono : MonoL r13 := ⟨VE.mono, VE.mono, VE.mono, VE.mono, VE.mono, VE.mono, VEs.mono, VE.mono, VE.mono, VEs.mono, VE.mono, VE.mono, VE.mono, VE.mono, VE.mono, VEs.mono, VE.mono, VE.mono, VEs.mono, VE.mono, VEs.mono, VK.mono, VK.mono, trivial⟩
def r20 : List (Value → World → Prop) := [VS (fun _ => True) (.mk 0 ⟨#[]⟩ ⟨#[]⟩ false none 0 [] none 0 [] none 0 [] 0),
  VE (fun _ => True) (.mk 1 ⟨#[]⟩ 1 none 0 [] 0),
  VEs (fun _ => True) [(.mk 1 ⟨#[]⟩ 1 none 0 [] 0)],
  VS (fun _ => True) (.mk 1 ⟨#[]⟩ ⟨#[]⟩ false none 0 [(.mk 1 ⟨#[]⟩ 1 none 0 [] 0)] none 0 [] none 0 [] 0),
  VS (fun _ => True) (.mk 1 ⟨#[97]⟩ ⟨#[]⟩ false none 0 [] none 0 [] none 0 [] 0),
  VE (fun _ => True) (.mk 1 ⟨#[]⟩ 1 none 0 [] 0),
  VEs (fun _ => True) [(.mk 1 ⟨#[]⟩ 1 none 0 [] 0)],
  VS (fun _ => True) (.mk 3 ⟨#[97]⟩ ⟨#[]⟩ false none 0 [(.mk 1 ⟨#[]⟩ 1 none 0 [] 0)] none 0 [] none 0 [] 0),
  VS (fun _ => True) (.mk 4 ⟨#[]⟩ ⟨#[]⟩ false none 0 [] none 0 [] none 0 [] 0),
  VE (fun _ => True) (.mk 1 ⟨#[]⟩ 1 none 0 [] 0),
  VEs (fun _ => True) [(.mk 1 ⟨#[]⟩ 1 none 0 [] 0)],
  VE (fun _ => True) (.mk 1 ⟨#[]⟩ 1 none 0 [] 0),
  VEs (fun _ => True) [(.mk 1 ⟨#[]⟩ 1 none 0 [] 0)],
  VS (fun _ => True) (.mk 7 ⟨#[]⟩ ⟨#[]⟩ false none 0 [(.mk 1 ⟨#[]⟩ 1 none 0 [] 0)] none 0 [] none 0 [] 0),
  VSs (fun _ => True) [(.mk 7 ⟨#[]⟩ ⟨#[]⟩ false none 0 [(.mk 1 ⟨#[]⟩ 1 none 0 [] 0)] none 0 [] none 0 [] 0)],
  VS (fun _ => True) (.mk 5 ⟨#[]⟩ ⟨#[]⟩ false none 0 [(.mk 1 ⟨#[]⟩ 1 none 0 [] 0)] none 0 [] none 0 [(.mk 7 ⟨#[]⟩ ⟨#[]⟩ false none 0 [(.mk 1 ⟨#[]⟩ 1 none 0 [] 0)] none 0 [] none 0 [] 0)] 0),
  VS (fun _ => True) (.mk 6 ⟨#[]⟩ ⟨#[]⟩ false none 0 [] none 0 [] none 0 [] 0),
  VE (fun _ => True) (.mk 1 ⟨#[]⟩ 1 none 0 [] 0),
  VEs (fun _ => True) [(.mk 1 ⟨#[]⟩ 1 none 0 [] 0)],
  VS (fun _ => True) (.mk 7 ⟨#[97]⟩ ⟨#[]⟩ false none 0 [(.mk 1 ⟨#[]⟩ 1 none 0 [] 0)] none 0 [] none 0 [] 0),
  VS (fun _ => True) (.mk 8 ⟨#[102]⟩ ⟨#[]⟩ true none 0 [] none 0 [] none 0 [] 0),
  VS (fun _ => True) (.mk 8 ⟨#[102]⟩ ⟨#[105, 102]⟩ false none 0 [] none 0 [] none 0 [] 0),
  VEs (fun _ => True) [(.mk 0 ⟨#[]⟩ 0 none 0 [] 0), (.mk 0 ⟨#[]⟩ 0 none 0 [] 0), (.mk 0 ⟨#[]⟩ 0 none 0 [] 0), (.mk 0 ⟨#[]⟩ 0 none 0 [] 0), (.mk 0 ⟨#[]⟩ 0 none 0 [] 0), (.mk 0 ⟨#[]⟩ 0 none 0 [] 0), (.mk 0 ⟨#[]⟩ 0 none 0 [] 0), (.mk 0 ⟨#[]⟩ 0 none 0 [] 0), (.mk 0 ⟨#[]⟩ 0 none 0 [] 0)],
  VS (fun _ => True) (.mk 8 ⟨#[102]⟩ ⟨#[]⟩ false none 0 [(.mk 0 ⟨#[]⟩ 0 none 0 [] 0), (.mk 0 ⟨#[]⟩ 0 none 0 [] 0), (.mk 0 ⟨#[]⟩ 0 none 0 [] 0), (.mk 0 ⟨#[]⟩ 0 none 0 [] 0), (.mk 0 ⟨#[]⟩ 0 none 0 [] 0), (.mk 0 ⟨#[]⟩ 0 none 0 [] 0), (.mk 0 ⟨#[]⟩ 0 none 0 [] 0), (.mk 0 ⟨#[]⟩ 0 none 0 [] 0), (.mk 0 ⟨#[]⟩ 0 none 0 [] 0)] none 0 [] none 0 [] 0),
  VS (fun _ => True) (.mk 9 ⟨#[]⟩ ⟨#[]⟩ false none 0 [] none 0 [] none 0 [] 0),
  VE (fun _ => True) (.mk 1 ⟨#[]⟩ 1 none 0 [] 0),
  VEs (fun _ => True) [(.mk 1 ⟨#[]⟩ 1 none 0 [] 0)],
  VS (fun _ => True) (.mk 2 ⟨#[97]⟩ ⟨#[98]⟩ false none 0 [(.mk 1 ⟨#[]⟩ 1 none 0 [] 0)] none 0 [] none 0 [] 0),
  VSs (fun _ => True) [(.mk 0 ⟨#[]⟩ ⟨#[]⟩ false none 0 [] none 0 [] none 0 [] 0), (.mk 1 ⟨#[]⟩ ⟨#[]⟩ false none 0 [(.mk 1 ⟨#[]⟩ 1 none 0 [] 0)] none 0 [] none 0 [] 0), (.mk 1 ⟨#[97]⟩ ⟨#[]⟩ false none 0 [] none 0 [] none 0 [] 0), (.mk 3 ⟨#[97]⟩ ⟨#[]⟩ false none 0 [(.mk 1 ⟨#[]⟩ 1 none 0 [] 0)] none 0 [] none 0 [] 0), (.mk 4 ⟨#[]⟩ ⟨#[]⟩ false none 0 [] none 0 [] none 0 [] 0), (.mk 5 ⟨#[]⟩ ⟨#[]⟩ false none 0 [(.mk 1 ⟨#[]⟩ 1 none 0 [] 0)] none 0 [] none 0 [(.mk 7 ⟨#[]⟩ ⟨#[]⟩ false none 0 [(.mk 1 ⟨#[]⟩ 1 none 0 [] 0)] none 0 [] none 0 [] 0)] 0), (.mk 6 ⟨#[]⟩ ⟨#[]⟩ false none 0 [] none 0 [] none 0 [] 0), (.mk 7 ⟨#[97]⟩ ⟨#[]⟩ false none 0 [(.mk 1 ⟨#[]⟩ 1 none 0 [] 0)] none 0 [] none 0 [] 0), (.mk 8 ⟨#[102]⟩ ⟨#[]⟩ true none 0 [] none 0 [] none 0 [] 0), (.mk 8 ⟨#[102]⟩ ⟨#[105, 102]⟩ false none 0 [] none 0 [] none 0 [] 0), (.mk 8 ⟨#[102]⟩ ⟨#[]⟩ false none 0 [(.mk 0 ⟨#[]⟩ 0 none 0 [] 0), (.mk 0 ⟨#[]⟩ 0 none 0 [] 0), (.mk 0 ⟨#[]⟩ 0 none 0 [] 0), (.mk 0 ⟨#[]⟩ 0 none 0 [] 0), (.mk 0 ⟨#[]⟩ 0 none 0 [] 0), (.mk 0 ⟨#[]⟩ 0 none 0 [] 0), (.mk 0 ⟨#[]⟩ 0 none 0 [] 0), (.mk 0 ⟨#[]⟩ 0 none 0 [] 0), (.mk 0 ⟨#[]⟩ 0 none 0 [] 0)] none 0 [] none 0 [] 0), (.mk 9 ⟨#[]⟩ ⟨#[]⟩ false none 0 [] none 0 [] none 0 [] 0), (.mk 2 ⟨#[97]⟩ ⟨#[98]⟩ false none 0 [(.mk 1 ⟨#[]⟩ 1 none 0 [] 0)] none 0 [] none 0 [] 0)],
  VK (.int .i64 13),
  VK (.int .i64 0)]
theorem r20_mono : MonoL r20 := ⟨VS.mono, VE.mono, VEs.mono, VS.mono, VS.mono, VE.mono, VEs.mono, VS.mono, VS.mono, VE.mono, VEs.mono, VE.mono, VEs.mono, VS.mono, VSs.mono, VS.mono, VS.mono, VE.mono, VEs.mono, VS.mono, VS.mono, VS.mono, VEs.mono, VS.mono, VS.mono, VE.mono, VEs.mono, VS.mono, VSs.mono, VK.mono, VK.mono, trivial⟩
def r31 : List (Value → World → Prop) := [VK (.func (.func 25) #[] #[]),
  VE (fun _ => True) (negs 58),
  VEs (fun _ => True) [(negs 58)],
  VS (fun _ => True) (.mk 7 ⟨#[]⟩ ⟨#[]⟩ false none 0 [(negs 58)] none 0 [] none 0 [] 0),
  VK (.bool true),
  VK (.bool true)]
theorem r31_mono : MonoL r31 := ⟨VK.mono, VE.mono, VEs.mono, VS.mono, VK.mono, VK.mono, trivial⟩
def r32 : List (Value → World → Prop) := [VK (.func (.func 25) #[] #[]),
  VE (fun _ => True) (negs 58),
  VEs (fun _ => True) [(negs 58)],
  VE (fun _ => True) (.mk 5 ⟨#[]⟩ 0 none 0 [(negs 58)] 0),
  VEs (fun _ => True) [(.mk 5 ⟨#[]⟩ 0 none 0 [(negs 58)] 0)],
  VS (fun _ => True) (.mk 7 ⟨#[]⟩ ⟨#[]⟩ false none 0 [(.mk 5 ⟨#[]⟩ 0 none 0 [(negs 58)] 0)] none 0 [] none 0 [] 0),
  VK (.bool false),
  VK (.bool false)]
theorem r32_mono : MonoL r32 := ⟨VK.mono, VE.mono, VEs.mono, VE.mono, VEs.mono, VS.mono, VK.mono, VK.mono, trivial⟩
def r39 (g : Nat) : List (Value → World → Prop) := [VK (.string (nmz 31)),
  VK (.bool true),
  VK (.bool true),
  VK (.bool true),
  VK (.bool true),
  VK (.bool true),
  VK (.bool false),
  VK (.bool true),
  VK (.bool true),
  VK (.bool true),
  VK (.slice (some ⟨g, 0, none⟩) 256 256),
  VK (.bool true),
  VK (.bool true),
  VK (.bool true),
  VK (.slice (some ⟨g, 0, none⟩) 256 256),
  VK (.slice (some ⟨g, 0, none⟩) 256 256),
  VK (.pointer (some ⟨g, 0, none⟩)),
  VD (fun _ => True) ⟨3, ⟨#[108]⟩, 0, none, 0, [], none, 0, [], 0⟩,
  VDs (fun _ => True) [⟨3, ⟨#[108]⟩, 0, none, 0, [], none, 0, [], 0⟩],
  VDs (fun _ => True) (De.erL (List.replicate 256 lkDe ++ [lkDe])),
  VK (.bool false),
  VK (.bool true),
  VK (.bool true),
  VK (.bool true),
  VK (.bool true),
  VK (.bool true),
  VK (.bool true),
  VK (.func (.func 25) #[] #[]),
  VE (fun _ => True) (.mk 1 ⟨#[]⟩ 1 none 0 [] 0),
  VEs (fun _ => True) [(.mk 1 ⟨#[]⟩ 1 none 0 [] 0)],
  VS (fun _ => True) (.mk 8 ⟨#[102]⟩ ⟨#[118]⟩ true none 0 [(.mk 1 ⟨#[]⟩ 1 none 0 [] 0)] none 0 [] none 0 [] 0),
  VK (.bool true),
  VK (.bool true),
  VK (.bool true),
  VD (fun _ => True) ⟨2, ⟨#[97]⟩, 1024, none, 0, [], none, 0, [], 0⟩,
  VDs (fun _ => True) [⟨2, ⟨#[97]⟩, 1024, none, 0, [], none, 0, [], 0⟩],
  VK (.bool true),
  VK (.bool true),
  VK (.bool true),
  VD (fun _ => True) ⟨2, ⟨#[97]⟩, 1025, none, 0, [], none, 0, [], 0⟩,
  VDs (fun _ => True) [⟨2, ⟨#[97]⟩, 1025, none, 0, [], none, 0, [], 0⟩],
  VK (.bool false),
  VK (.bool true),
  VK (.bool true),
  VK (.bool true),
  VD (fun _ => True) ⟨2, ⟨#[97]⟩, 0, none, 0, [], none, 0, [], 0⟩,
  VDs (fun _ => True) [⟨2, ⟨#[97]⟩, 0, none, 0, [], none, 0, [], 0⟩],
  VK (.bool false),
  VK (.bool true),
  VK (.bool true),
  VK (.bool true),
  VD (fun _ => True) ⟨1, ⟨#[97]⟩, (-9223372036854775808), none, 0, [], none, 0, [], 0⟩,
  VDs (fun _ => True) [⟨1, ⟨#[97]⟩, (-9223372036854775808), none, 0, [], none, 0, [], 0⟩],
  VK (.bool true),
  VK (.bool true),
  VK (.bool true),
  VD (fun _ => True) ⟨3, ⟨#[97]⟩, 1, none, 0, [], none, 0, [], 0⟩,
  VDs (fun _ => True) [⟨3, ⟨#[97]⟩, 1, none, 0, [], none, 0, [], 0⟩],
  VK (.bool false),
  VK (.bool true),
  VK (.bool true),
  VK (.bool true),
  VNs (fun _ => True) [⟨#[98]⟩],
  VD (fun _ => True) ⟨5, ⟨#[97]⟩, 0, none, 0, [⟨#[98]⟩], none, 0, [], 0⟩,
  VDs (fun _ => True) [⟨5, ⟨#[97]⟩, 0, none, 0, [⟨#[98]⟩], none, 0, [], 0⟩],
  VK (.bool false),
  VK (.bool true),
  VK (.bool true),
  VK (.bool true),
  VD (fun _ => True) ⟨6, ⟨#[97]⟩, 0, none, 0, [], none, 0, [], 0⟩,
  VDs (fun _ => True) [⟨6, ⟨#[97]⟩, 0, none, 0, [], none, 0, [], 0⟩],
  VK (.bool false),
  VK (.bool true),
  VK (.bool true),
  VK (.bool true),
  VK (.bool true),
  VK (.bool true),
  VK (.bool true)]
theorem r39_mono (g : Nat) : MonoL (r39 g) := ⟨VK.mono, VK.mono, VK.mono, VK.mono, VK.mono, VK.mono, VK.mono, VK.mono, VK.mono, VK.mono, VK.mono, VK.mono, VK.mono, VK.mono, VK.mono, VK.mono, VK.mono, VD.mono, VDs.mono, VDs.mono, VK.mono, VK.mono, VK.mono, VK.mono, VK.mono, VK.mono, VK.mono, VK.mono, VE.mono, VEs.mono, VS.mono, VK.mono, VK.mono, VK.mono, VD.mono, VDs.mono, VK.mono, VK.mono, VK.mono, VD.mono, VDs.mono, VK.mono, VK.mono, VK.mono, VK.mono, VD.mono, VDs.mono, VK.mono, VK.mono, VK.mono, VK.mono, VD.mono, VDs.mono, VK.mono, VK.mono, VK.mono, VD.mono, VDs.mono, VK.mono, VK.mono, VK.mono, VK.mono, VNs.mono, VD.mono, VDs.mono, VK.mono, VK.mono, VK.mono, VK.mono, VD.mono, VDs.mono, VK.mono, VK.mono, VK.mono, VK.mono, VK.mono, VK.mono, VK.mono, trivial⟩
theorem zeros9 {w : World} : Ex.InL w (fun _ => True) (List.replicate 9 (Ex.mk 0 ⟨#[]⟩ 0 none 0 [] 0)) := by
  have h : Ex.In w (fun _ => True) (Ex.mk 0 ⟨#[]⟩ 0 none 0 [] 0) := by
    unfold Ex.In
    exact ⟨by unfold U8; omega, by unfold maxLen; decide, by unfold I64; omega, by unfold I64; omega, ⟨Nat.le_refl _, Nat.zero_le _, fun _ => rfl, fun j u hu => by simp [exCells] at hu⟩, inL_nil⟩
  exact inL_cons h (inL_cons h (inL_cons h (inL_cons h (inL_cons h (inL_cons h (inL_cons h (inL_cons h (inL_cons h inL_nil))))))))

def xs10 : List Ex := [(.mk 0 ⟨#[]⟩ 0 none 0 [] 0), (.mk 1 ⟨#[]⟩ (-1) none 0 [] 0), (.mk 2 ⟨#[]⟩ 2 none 0 [] 0), (.mk 3 ⟨#[]⟩ 0 none 0 [] 0), (.mk 5 ⟨#[]⟩ 0 none 0 [(.mk 1 ⟨#[]⟩ 1 none 0 [] 0), (.mk 1 ⟨#[]⟩ 1 none 0 [] 0)] 0), (.mk 7 ⟨#[]⟩ 0 none 0 [(.mk 1 ⟨#[]⟩ 1 none 0 [] 0)] 0), (.mk 1 ⟨#[97]⟩ 0 none 0 [] 0), (.mk 4 ⟨#[97]⟩ 0 none 0 [] 0), (.mk 18 ⟨#[]⟩ 0 none 0 [(.mk 1 ⟨#[]⟩ 1 none 0 [] 0), (.mk 1 ⟨#[]⟩ 1 none 0 [] 0)] 0), (.mk 6 ⟨#[]⟩ 1 none 0 [(.mk 1 ⟨#[]⟩ 1 none 0 [] 0)] 0)]
theorem xs10_no : ∀ x ∈ xs10, mayE x = false ∧ x.sz ≤ 2097152 := by
  intro x hx
  unfold xs10 at hx
  simp only [List.mem_cons, List.mem_nil_iff, or_false] at hx
  rcases hx with rfl | rfl | rfl | rfl | rfl | rfl | rfl | rfl | rfl | rfl <;> exact ⟨by rfl, by decide⟩
def xs13 : List St := [(.mk 0 ⟨#[]⟩ ⟨#[]⟩ false none 0 [] none 0 [] none 0 [] 0), (.mk 1 ⟨#[]⟩ ⟨#[]⟩ false none 0 [(.mk 1 ⟨#[]⟩ 1 none 0 [] 0)] none 0 [] none 0 [] 0), (.mk 1 ⟨#[97]⟩ ⟨#[]⟩ false none 0 [] none 0 [] none 0 [] 0), (.mk 3 ⟨#[97]⟩ ⟨#[]⟩ false none 0 [(.mk 1 ⟨#[]⟩ 1 none 0 [] 0)] none 0 [] none 0 [] 0), (.mk 4 ⟨#[]⟩ ⟨#[]⟩ false none 0 [] none 0 [] none 0 [] 0), (.mk 5 ⟨#[]⟩ ⟨#[]⟩ false none 0 [(.mk 1 ⟨#[]⟩ 1 none 0 [] 0)] none 0 [] none 0 [(.mk 7 ⟨#[]⟩ ⟨#[]⟩ false none 0 [(.mk 1 ⟨#[]⟩ 1 none 0 [] 0)] none 0 [] none 0 [] 0)] 0), (.mk 6 ⟨#[]⟩ ⟨#[]⟩ false none 0 [] none 0 [] none 0 [] 0), (.mk 7 ⟨#[97]⟩ ⟨#[]⟩ false none 0 [(.mk 1 ⟨#[]⟩ 1 none 0 [] 0)] none 0 [] none 0 [] 0), (.mk 8 ⟨#[102]⟩ ⟨#[]⟩ true none 0 [] none 0 [] none 0 [] 0), (.mk 8 ⟨#[102]⟩ ⟨#[105, 102]⟩ false none 0 [] none 0 [] none 0 [] 0), (.mk 8 ⟨#[102]⟩ ⟨#[]⟩ false none 0 [(.mk 0 ⟨#[]⟩ 0 none 0 [] 0), (.mk 0 ⟨#[]⟩ 0 none 0 [] 0), (.mk 0 ⟨#[]⟩ 0 none 0 [] 0), (.mk 0 ⟨#[]⟩ 0 none 0 [] 0), (.mk 0 ⟨#[]⟩ 0 none 0 [] 0), (.mk 0 ⟨#[]⟩ 0 none 0 [] 0), (.mk 0 ⟨#[]⟩ 0 none 0 [] 0), (.mk 0 ⟨#[]⟩ 0 none 0 [] 0), (.mk 0 ⟨#[]⟩ 0 none 0 [] 0)] none 0 [] none 0 [] 0), (.mk 9 ⟨#[]⟩ ⟨#[]⟩ false none 0 [] none 0 [] none 0 [] 0), (.mk 2 ⟨#[97]⟩ ⟨#[98]⟩ false none 0 [(.mk 1 ⟨#[]⟩ 1 none 0 [] 0)] none 0 [] none 0 [] 0)]
theorem xs13_no : ∀ x ∈ xs13, okS x = false ∧ x.sz ≤ 4194304 := by
  intro x hx
  unfold xs13 at hx
  simp only [List.mem_cons, List.mem_nil_iff, or_false] at hx
  rcases hx with rfl | rfl | rfl | rfl | rfl | rfl | rfl | rfl | rfl | rfl | rfl | rfl | rfl <;> exact ⟨by rfl, by decide⟩
attribute [local go_sem ↓] Go.wp_at_zero Go.wp_at_succ
theorem nme31 : nme (nmz 31).data.toList = true := by rw [nmz_data]; rfl
theorem erl256 : De.erL (List.replicate 256 lkDe) = List.replicate 256 lkDe := by
  unfold De.erL
  rw [List.map_replicate]
  rfl
theorem lk_vd {w : World} : VD (fun _ => True) ⟨3, ⟨#[108]⟩, 0, none, 0, [], none, 0, [], 0⟩ (.agg ⟨lkDe.vals⟩) w := ⟨lkDe, rfl, lk_in, rfl⟩
theorem ix_de0 {V : World} {b : Nat} (n : Nat) (h : 0 < n := by omega) : (Instr.indexAt 22 (.slice (some ⟨b, 0, none⟩) n n) (.int .i64 0)).run Tryd.prog V = .ok (.pointer (some ⟨b, 0, none⟩)) V := by
  have h' : (0 : Int) < (n : Int) := by omega
  go_simp
set_option maxHeartbeats 40000000 in
set_option maxRecDepth 100000 in
theorem treeNames_any (w : World) (ht : TabsD w) :
    Calls Tryd.prog 4 #[] w fun x w' => x = .returned (.bool true) ∧ Below w.heap.size w w' := by
  go_enter Tryd.func4, Tryd.ntmps4
  go_wp2_with fail
  obtain ⟨w1, hw1⟩ : ∃ W, w.alloc (.cells #[.int .u8 1, .string ⟨#[]⟩, .int .i64 1, .slice none 0 0, .int .i64 0] 25) = W := ⟨_, rfl⟩
  rw [hw1]
  have hb1 : Below w.heap.size w w1 := by rw [← hw1]; exact (Below.refl _ _).alloc (Nat.le_refl _) _
  have o0 : w1.cell? ⟨w.heap.size, 0, none⟩ = some (.int .u8 1) := by rw [← hw1]; exact blk_cell (blk_new _ _ rfl) rfl
  have o1 : w1.cell? ⟨w.heap.size, 1, none⟩ = some (.string ⟨#[]⟩) := by rw [← hw1]; exact blk_cell (blk_new _ _ rfl) rfl
  have o2 : w1.cell? ⟨w.heap.size, 2, none⟩ = some (.int .i64 1) := by rw [← hw1]; exact blk_cell (blk_new _ _ rfl) rfl
  have o3 : w1.cell? ⟨w.heap.size, 3, none⟩ = some (.slice none 0 0) := by rw [← hw1]; exact blk_cell (blk_new _ _ rfl) rfl
  have o4 : w1.cell? ⟨w.heap.size, 4, none⟩ = some (.int .i64 0) := by rw [← hw1]; exact blk_cell (blk_new _ _ rfl) rfl
  have ht1 : TabsD w1 := ht.below hb1
  clear hw1 ht
  replace hb1 := Lib.hid hb1
  obtain ⟨p, hp⟩ : ∃ p, w.heap.size = p := ⟨_, rfl⟩
  rw [hp] at o0 o1 o2 o3 o4 ⊢
  replace hp := Lib.hid hp
  go_loop [2, 3] (fun s i => ∃ k : Nat, k ≤ 31 ∧ i = .int .i64 k ∧ s = .string (nmz k)) (fun _ i => 31 - (intOf i).toNat)
  case atStart => exact ⟨0, by omega, rfl, rfl⟩
  case round =>
    obtain ⟨k, hk, rfl, rfl⟩ := hrel
    have hsz : (nmz k).size ≤ 40 := by rw [nmz_size]; omega
    by_cases hlt : k < 31
    · go_wp2_with fail
      go_round
      case rel => exact ⟨k + 1, by omega, by go_num, rfl⟩
      case measure => simp [intOf]; omega
    · obtain rfl : k = 31 := by omega
      clear hk hlt
      go_wp2_with fail
      obtain ⟨w2, hw2⟩ : ∃ W, w1.alloc (.cells ⟨strCells wl⟩ 9) = W := ⟨_, rfl⟩
      have hv2 : VNs (fun _ => True) wl (.slice (some ⟨w1.heap.size, 0, none⟩) 19 19) w2 := by rw [← hw2]; exact strs_new wl (by unfold wl; simp) (fun s hs => (wl_no s hs).2) trivial
      have hb2 : Below w1.heap.size w1 w2 := by rw [← hw2]; exact (Below.refl _ _).alloc (Nat.le_refl _) _
      have e32 : nmz 31 ++ ⟨#[48]⟩ = nmz 32 := rfl
      have hw2' := hw2
      unfold strCells wl at hw2'
      simp only [List.map_cons, List.map_nil] at hw2'
      rw [e32]
      clear e32
      rw [hw2']
      clear hw2 hw2'
      obtain ⟨a2, c2, hva, hrow2, _⟩ := hv2
      obtain ⟨rfl, rfl⟩ : some ⟨w1.heap.size, 0, none⟩ = a2 ∧ 19 = c2 := by
        have : wl.length = 19 := rfl
        simp only [Value.slice.injEq] at hva
        exact ⟨hva.1, hva.2.2⟩
      clear hva
      have q0 := below_in hb2 o0
      have q1 := below_in hb2 o1
      have q2 := below_in hb2 o2
      have q3 := below_in hb2 o3
      have q4 := below_in hb2 o4
      have ht2 := ht1.below hb2
      have hbb : Hid (Below w.heap.size w w2) := Lib.hid (hb1.out.trans (hb2.mono hb1.out.size))
      clear o0 o1 o2 o3 o4 ht1 hb2 hb1
      replace hrow2 := Lib.hid hrow2
      go_loopw [28] (fun i wr => ∃ k : Nat, k ≤ 19 ∧ i = .int .i64 k ∧ Below w2.heap.size w2 wr) (fun i _ => 19 - (intOf i).toNat)
      case atStart => exact ⟨0, by omega, rfl, Below.refl _ _⟩
      case round =>
        obtain ⟨k, hk, rfl, hbr⟩ := hrel
        by_cases hlt : k < 19
        · obtain ⟨s, hs⟩ : ∃ s, wl[k]? = some s := ⟨wl[k]'(by unfold wl; simp; omega), by simp⟩
          obtain ⟨bs, os, ha, _, hc⟩ := str_row hrow2.out k s hs
          obtain ⟨rfl, rfl⟩ : w1.heap.size = bs ∧ 0 = os := by simpa using ha
          have hno := wl_no s (List.mem_of_getElem? hs)
          have hc' := below_in hbr hc
          rw [Nat.zero_add] at hc'
          have cN := fun V (h : Below w2.heap.size w2 V) => (tname_any s V hno.2 (ht2.below h).sg).mono fun x w' h2 => (⟨by rw [h2.1, hno.1], h.trans (h2.2.mono h.size)⟩ : x = .returned (.bool false) ∧ Below w2.heap.size w2 w')
          replace cN := Lib.hid cN
          clear hno hc ha hs
          go_wp2_with fail
          refine (cN.out _ hbr).mono ?_
          rintro x w' ⟨rfl, hbw⟩
          clear hc' hbr cN
          go_wp2_with fail
          go_roundw
          case rel => exact ⟨k + 1, by omega, by go_num, hbw⟩
          case measure => simp [intOf]; omega
        · obtain rfl : k = 19 := by omega
          clear hk hlt
          have x0 := below_in hbr q0
          have x1 := below_in hbr q1
          have x2 := below_in hbr q2
          have x3 := below_in hbr q3
          have x4 := below_in hbr q4
          have ht3 := ht2.below hbr
          have hbb3 : Hid (Below w.heap.size w wr) := Lib.hid (hbb.out.trans (hbr.mono hbb.out.size))
          clear q0 q1 q2 q3 q4 hbr ht2 hbb hrow2
          go_upto_region 13 with fail
          refine wp_region_rel_text (C := fun V => Ext wr V) (E := Ext) (R := fun i => r13.getD i VT) (Below.refl _ _) (by kernel_rfl) (fun i v w w' _ hE h => mono_get r13 i r13_mono v w w' hE h) (steps_all ?hs) ?hend
          case hs =>
            refine stepsL_cons (s_val fun a w hC hs => ?_) ?_
            · skip
              exact ⟨wanted_none rfl, _, run_b (qs := #[]) rfl (by simp) (by kernel_rfl), mk_ex (by unfold U8; omega) (by unfold maxLen; decide) (by unfold I64; omega) exs_nil⟩
            refine stepsL_cons (s_val fun a w hC hs => ?_) ?_
            · skip
              exact ⟨wanted_none rfl, _, run_b (qs := #[(0, .int .u8 1), (2, .int .i64 (-1))]) rfl (by simp [ev_const]) (by kernel_rfl), mk_ex (by unfold U8; omega) (by unfold maxLen; decide) (by unfold I64; omega) exs_nil⟩
            refine stepsL_cons (s_val fun a w hC hs => ?_) ?_
            · skip
              exact ⟨wanted_none rfl, _, run_b (qs := #[(0, .int .u8 2), (2, .int .i64 2)]) rfl (by simp [ev_const]) (by kernel_rfl), mk_ex (by unfold U8; omega) (by unfold maxLen; decide) (by unfold I64; omega) exs_nil⟩
            refine stepsL_cons (s_val fun a w hC hs => ?_) ?_
            · skip
              exact ⟨wanted_none rfl, _, run_b (qs := #[(0, .int .u8 3)]) rfl (by simp [ev_const]) (by kernel_rfl), mk_ex (by unfold U8; omega) (by unfold maxLen; decide) (by unfold I64; omega) exs_nil⟩
            refine stepsL_cons (s_val fun a w hC hs => ?_) ?_
            · have ho := old_of hs 1 (by kernel_rfl) (by rfl)
              exact ⟨wanted_none rfl, _, run_ld rfl (ev ho) (ld_ex (below_in hC x0) (below_in hC x1) (below_in hC x2) (below_in hC x3) (below_in hC x4)), mk_ex (by unfold U8; omega) (by unfold maxLen; decide) (by unfold I64; omega) exs_nil⟩
            refine stepsL_cons (s_val fun a w hC hs => ?_) ?_
            · have ho := old_of hs 1 (by kernel_rfl) (by rfl)
              exact ⟨wanted_none rfl, _, run_ld rfl (ev ho) (ld_ex (below_in hC x0) (below_in hC x1) (below_in hC x2) (below_in hC x3) (below_in hC x4)), mk_ex (by unfold U8; omega) (by unfold maxLen; decide) (by unfold I64; omega) exs_nil⟩
            refine stepsL_cons (s_new fun a w hC hs => ?_) ?_
            · skip
              obtain ⟨v0, hv0, hR0⟩ := got_of hs 4 39 (by kernel_rfl) (by rfl)
              replace hR0 : VE (fun _ => True) (.mk 1 ⟨#[]⟩ 1 none 0 [] 0) v0 w := hR0
              obtain ⟨⟨k0, n0, m0, a0, c0, l0, p0⟩, rfl, i0, q0⟩ := hR0
              obtain ⟨v1, hv1, hR1⟩ := got_of hs 5 40 (by kernel_rfl) (by rfl)
              replace hR1 : VE (fun _ => True) (.mk 1 ⟨#[]⟩ 1 none 0 [] 0) v1 w := hR1
              obtain ⟨⟨k1, n1, m1, a1, c1, l1, p1⟩, rfl, i1, q1⟩ := hR1
              exact ⟨wanted_none rfl, _, w.alloc (.cells ⟨exCells [(Ex.mk k0 n0 m0 a0 c0 l0 p0), (Ex.mk k1 n1 m1 a1 c1 l1 p1)]⟩ 25), run_bs (qs := #[(0, .agg #[.int .u8 k0, .string n0, .int .i64 m0, .slice a0 l0.length c0, .int .i64 p0]), (1, .agg #[.int .u8 k1, .string n1, .int .i64 m1, .slice a1 l1.length c1, .int .i64 p1])]) rfl (by simp [ev hv0, ev hv1, Ex.vals]) (by kernel_rfl), hC.trans ((Ext.al w _).mono hC.size), Ext.al w _, (show Ex.erL [(Ex.mk k0 n0 m0 a0 c0 l0 p0), (Ex.mk k1 n1 m1 a1 c1 l1 p1)] = ([(.mk 1 ⟨#[]⟩ 1 none 0 [] 0), (.mk 1 ⟨#[]⟩ 1 none 0 [] 0)] : List Ex) from (by rw [Ex.erL_cons, Ex.erL_cons, Ex.erL_nil, q0, q1])) ▸ exs_new (T := 25) [(Ex.mk k0 n0 m0 a0 c0 l0 p0), (Ex.mk k1 n1 m1 a1 c1 l1 p1)] (by simp) (inL_cons i0 (inL_cons i1 (inL_nil))) trivial⟩
            refine stepsL_cons (s_val fun a w hC hs => ?_) ?_
            · skip
              obtain ⟨v3, hv3, hR3⟩ := got_of hs 6 41 (by kernel_rfl) (by rfl)
              replace hR3 : VEs (fun _ => True) [(.mk 1 ⟨#[]⟩ 1 none 0 [] 0), (.mk 1 ⟨#[]⟩ 1 none 0 [] 0)] v3 w := hR3
              obtain ⟨l3, a3, c3, rfl, r3, i3, q3⟩ := hR3
              exact ⟨wanted_none rfl, _, run_b (qs := #[(0, .int .u8 5), (3, .slice a3 l3.length c3)]) rfl (by simp [ev_const, ev hv3]) (by kernel_rfl), mk_ex (by unfold U8; omega) (by unfold maxLen; decide) (by unfold I64; omega) ⟨l3, a3, c3, rfl, r3, i3, q3⟩⟩
            refine stepsL_cons (s_val fun a w hC hs => ?_) ?_
            · have ho := old_of hs 1 (by kernel_rfl) (by rfl)
              exact ⟨wanted_none rfl, _, run_ld rfl (ev ho) (ld_ex (below_in hC x0) (below_in hC x1) (below_in hC x2) (below_in hC x3) (below_in hC x4)), mk_ex (by unfold U8; omega) (by unfold maxLen; decide) (by unfold I64; omega) exs_nil⟩
            refine stepsL_cons (s_new fun a w hC hs => ?_) ?_
            · skip
              obtain ⟨v0, hv0, hR0⟩ := got_of hs 8 43 (by kernel_rfl) (by rfl)
              replace hR0 : VE (fun _ => True) (.mk 1 ⟨#[]⟩ 1 none 0 [] 0) v0 w := hR0
              obtain ⟨⟨k0, n0, m0, a0, c0, l0, p0⟩, rfl, i0, q0⟩ := hR0
              exact ⟨wanted_none rfl, _, w.alloc (.cells ⟨exCells [(Ex.mk k0 n0 m0 a0 c0 l0 p0)]⟩ 25), run_bs (qs := #[(0, .agg #[.int .u8 k0, .string n0, .int .i64 m0, .slice a0 l0.length c0, .int .i64 p0])]) rfl (by simp [ev hv0, Ex.vals]) (by kernel_rfl), hC.trans ((Ext.al w _).mono hC.size), Ext.al w _, (show Ex.erL [(Ex.mk k0 n0 m0 a0 c0 l0 p0)] = ([(.mk 1 ⟨#[]⟩ 1 none 0 [] 0)] : List Ex) from (by rw [Ex.erL_cons, Ex.erL_nil, q0])) ▸ exs_new (T := 25) [(Ex.mk k0 n0 m0 a0 c0 l0 p0)] (by simp) (inL_cons i0 (inL_nil)) trivial⟩
            refine stepsL_cons (s_val fun a w hC hs => ?_) ?_
            · skip
              obtain ⟨v3, hv3, hR3⟩ := got_of hs 9 44 (by kernel_rfl) (by rfl)
              replace hR3 : VEs (fun _ => True) [(.mk 1 ⟨#[]⟩ 1 none 0 [] 0)] v3 w := hR3
              obtain ⟨l3, a3, c3, rfl, r3, i3, q3⟩ := hR3
              exact ⟨wanted_none rfl, _, run_b (qs := #[(0, .int .u8 7), (3, .slice a3 l3.length c3)]) rfl (by simp [ev_const, ev hv3]) (by kernel_rfl), mk_ex (by unfold U8; omega) (by unfold maxLen; decide) (by unfold I64; omega) ⟨l3, a3, c3, rfl, r3, i3, q3⟩⟩
            refine stepsL_cons (s_val fun a w hC hs => ?_) ?_
            · skip
              exact ⟨wanted_none rfl, _, run_b (qs := #[(0, .int .u8 1), (1, .string ⟨#[97]⟩)]) rfl (by simp [ev_const]) (by kernel_rfl), mk_ex (by unfold U8; omega) (by unfold maxLen; decide) (by unfold I64; omega) exs_nil⟩
            refine stepsL_cons (s_val fun a w hC hs => ?_) ?_
            · skip
              exact ⟨wanted_none rfl, _, run_b (qs := #[(0, .int .u8 4), (1, .string ⟨#[97]⟩)]) rfl (by simp [ev_const]) (by kernel_rfl), mk_ex (by unfold U8; omega) (by unfold maxLen; decide) (by unfold I64; omega) exs_nil⟩
            refine stepsL_cons (s_val fun a w hC hs => ?_) ?_
            · have ho := old_of hs 1 (by kernel_rfl) (by rfl)
              exact ⟨wanted_none rfl, _, run_ld rfl (ev ho) (ld_ex (below_in hC x0) (below_in hC x1) (below_in hC x2) (below_in hC x3) (below_in hC x4)), mk_ex (by unfold U8; omega) (by unfold maxLen; decide) (by unfold I64; omega) exs_nil⟩
            refine stepsL_cons (s_val fun a w hC hs => ?_) ?_
            · have ho := old_of hs 1 (by kernel_rfl) (by rfl)
              exact ⟨wanted_none rfl, _, run_ld rfl (ev ho) (ld_ex (below_in hC x0) (below_in hC x1) (below_in hC x2) (below_in hC x3) (below_in hC x4)), mk_ex (by unfold U8; omega) (by unfold maxLen; decide) (by unfold I64; omega) exs_nil⟩
            refine stepsL_cons (s_new fun a w hC hs => ?_) ?_
            · skip
              obtain ⟨v0, hv0, hR0⟩ := got_of hs 13 48 (by kernel_rfl) (by rfl)
              replace hR0 : VE (fun _ => True) (.mk 1 ⟨#[]⟩ 1 none 0 [] 0) v0 w := hR0
              obtain ⟨⟨k0, n0, m0, a0, c0, l0, p0⟩, rfl, i0, q0⟩ := hR0
              obtain ⟨v1, hv1, hR1⟩ := got_of hs 14 49 (by kernel_rfl) (by rfl)
              replace hR1 : VE (fun _ => True) (.mk 1 ⟨#[]⟩ 1 none 0 [] 0) v1 w := hR1
              obtain ⟨⟨k1, n1, m1, a1, c1, l1, p1⟩, rfl, i1, q1⟩ := hR1
              exact ⟨wanted_none rfl, _, w.alloc (.cells ⟨exCells [(Ex.mk k0 n0 m0 a0 c0 l0 p0), (Ex.mk k1 n1 m1 a1 c1 l1 p1)]⟩ 25), run_bs (qs := #[(0, .agg #[.int .u8 k0, .string n0, .int .i64 m0, .slice a0 l0.length c0, .int .i64 p0]), (1, .agg #[.int .u8 k1, .string n1, .int .i64 m1, .slice a1 l1.length c1, .int .i64 p1])]) rfl (by simp [ev hv0, ev hv1, Ex.vals]) (by kernel_rfl), hC.trans ((Ext.al w _).mono hC.size), Ext.al w _, (show Ex.erL [(Ex.mk k0 n0 m0 a0 c0 l0 p0), (Ex.mk k1 n1 m1 a1 c1 l1 p1)] = ([(.mk 1 ⟨#[]⟩ 1 none 0 [] 0), (.mk 1 ⟨#[]⟩ 1 none 0 [] 0)] : List Ex) from (by rw [Ex.erL_cons, Ex.erL_cons, Ex.erL_nil, q0, q1])) ▸ exs_new (T := 25) [(Ex.mk k0 n0 m0 a0 c0 l0 p0), (Ex.mk k1 n1 m1 a1 c1 l1 p1)] (by simp) (inL_cons i0 (inL_cons i1 (inL_nil))) trivial⟩
            refine stepsL_cons (s_val fun a w hC hs => ?_) ?_
            · skip
              obtain ⟨v3, hv3, hR3⟩ := got_of hs 15 50 (by kernel_rfl) (by rfl)
              replace hR3 : VEs (fun _ => True) [(.mk 1 ⟨#[]⟩ 1 none 0 [] 0), (.mk 1 ⟨#[]⟩ 1 none 0 [] 0)] v3 w := hR3
              obtain ⟨l3, a3, c3, rfl, r3, i3, q3⟩ := hR3
              exact ⟨wanted_none rfl, _, run_b (qs := #[(0, .int .u8 18), (3, .slice a3 l3.length c3)]) rfl (by simp [ev_const, ev hv3]) (by kernel_rfl), mk_ex (by unfold U8; omega) (by unfold maxLen; decide) (by unfold I64; omega) ⟨l3, a3, c3, rfl, r3, i3, q3⟩⟩
            refine stepsL_cons (s_val fun a w hC hs => ?_) ?_
            · have ho := old_of hs 1 (by kernel_rfl) (by rfl)
              exact ⟨wanted_none rfl, _, run_ld rfl (ev ho) (ld_ex (below_in hC x0) (below_in hC x1) (below_in hC x2) (below_in hC x3) (below_in hC x4)), mk_ex (by unfold U8; omega) (by unfold maxLen; decide) (by unfold I64; omega) exs_nil⟩
            refine stepsL_cons (s_new fun a w hC hs => ?_) ?_
            · skip
              obtain ⟨v0, hv0, hR0⟩ := got_of hs 17 52 (by kernel_rfl) (by rfl)
              replace hR0 : VE (fun _ => True) (.mk 1 ⟨#[]⟩ 1 none 0 [] 0) v0 w := hR0
              obtain ⟨⟨k0, n0, m0, a0, c0, l0, p0⟩, rfl, i0, q0⟩ := hR0
              exact ⟨wanted_none rfl, _, w.alloc (.cells ⟨exCells [(Ex.mk k0 n0 m0 a0 c0 l0 p0)]⟩ 25), run_bs (qs := #[(0, .agg #[.int .u8 k0, .string n0, .int .i64 m0, .slice a0 l0.length c0, .int .i64 p0])]) rfl (by simp [ev hv0, Ex.vals]) (by kernel_rfl), hC.trans ((Ext.al w _).mono hC.size), Ext.al w _, (show Ex.erL [(Ex.mk k0 n0 m0 a0 c0 l0 p0)] = ([(.mk 1 ⟨#[]⟩ 1 none 0 [] 0)] : List Ex) from (by rw [Ex.erL_cons, Ex.erL_nil, q0])) ▸ exs_new (T := 25) [(Ex.mk k0 n0 m0 a0 c0 l0 p0)] (by simp) (inL_cons i0 (inL_nil)) trivial⟩
            refine stepsL_cons (s_val fun a w hC hs => ?_) ?_
            · skip
              obtain ⟨v3, hv3, hR3⟩ := got_of hs 18 53 (by kernel_rfl) (by rfl)
              replace hR3 : VEs (fun _ => True) [(.mk 1 ⟨#[]⟩ 1 none 0 [] 0)] v3 w := hR3
              obtain ⟨l3, a3, c3, rfl, r3, i3, q3⟩ := hR3
              exact ⟨wanted_none rfl, _, run_b (qs := #[(0, .int .u8 6), (2, .int .i64 1), (3, .slice a3 l3.length c3)]) rfl (by simp [ev_const, ev hv3]) (by kernel_rfl), mk_ex (by unfold U8; omega) (by unfold maxLen; decide) (by unfold I64; omega) ⟨l3, a3, c3, rfl, r3, i3, q3⟩⟩
            refine stepsL_cons (s_new fun a w hC hs => ?_) ?_
            · skip
              obtain ⟨v0, hv0, hR0⟩ := got_of hs 0 35 (by kernel_rfl) (by rfl)
              replace hR0 : VE (fun _ => True) (.mk 0 ⟨#[]⟩ 0 none 0 [] 0) v0 w := hR0
              obtain ⟨⟨k0, n0, m0, a0, c0, l0, p0⟩, rfl, i0, q0⟩ := hR0
              obtain ⟨v1, hv1, hR1⟩ := got_of hs 1 36 (by kernel_rfl) (by rfl)
              replace hR1 : VE (fun _ => True) (.mk 1 ⟨#[]⟩ (-1) none 0 [] 0) v1 w := hR1
              obtain ⟨⟨k1, n1, m1, a1, c1, l1, p1⟩, rfl, i1, q1⟩ := hR1
              obtain ⟨v2, hv2, hR2⟩ := got_of hs 2 37 (by kernel_rfl) (by rfl)
              replace hR2 : VE (fun _ => True) (.mk 2 ⟨#[]⟩ 2 none 0 [] 0) v2 w := hR2
              obtain ⟨⟨k2, n2, m2, a2, c2, l2, p2⟩, rfl, i2, q2⟩ := hR2
              obtain ⟨v3, hv3, hR3⟩ := got_of hs 3 38 (by kernel_rfl) (by rfl)
              replace hR3 : VE (fun _ => True) (.mk 3 ⟨#[]⟩ 0 none 0 [] 0) v3 w := hR3
              obtain ⟨⟨k3, n3, m3, a3, c3, l3, p3⟩, rfl, i3, q3⟩ := hR3
              obtain ⟨v4, hv4, hR4⟩ := got_of hs 7 42 (by kernel_rfl) (by rfl)
              replace hR4 : VE (fun _ => True) (.mk 5 ⟨#[]⟩ 0 none 0 [(.mk 1 ⟨#[]⟩ 1 none 0 [] 0), (.mk 1 ⟨#[]⟩ 1 none 0 [] 0)] 0) v4 w := hR4
              obtain ⟨⟨k4, n4, m4, a4, c4, l4, p4⟩, rfl, i4, q4⟩ := hR4
              obtain ⟨v5, hv5, hR5⟩ := got_of hs 10 45 (by kernel_rfl) (by rfl)
              replace hR5 : VE (fun _ => True) (.mk 7 ⟨#[]⟩ 0 none 0 [(.mk 1 ⟨#[]⟩ 1 none 0 [] 0)] 0) v5 w := hR5
              obtain ⟨⟨k5, n5, m5, a5, c5, l5, p5⟩, rfl, i5, q5⟩ := hR5
              obtain ⟨v6, hv6, hR6⟩ := got_of hs 11 46 (by kernel_rfl) (by rfl)
              replace hR6 : VE (fun _ => True) (.mk 1 ⟨#[97]⟩ 0 none 0 [] 0) v6 w := hR6
              obtain ⟨⟨k6, n6, m6, a6, c6, l6, p6⟩, rfl, i6, q6⟩ := hR6
              obtain ⟨v7, hv7, hR7⟩ := got_of hs 12 47 (by kernel_rfl) (by rfl)
              replace hR7 : VE (fun _ => True) (.mk 4 ⟨#[97]⟩ 0 none 0 [] 0) v7 w := hR7
              obtain ⟨⟨k7, n7, m7, a7, c7, l7, p7⟩, rfl, i7, q7⟩ := hR7
              obtain ⟨v8, hv8, hR8⟩ := got_of hs 16 51 (by kernel_rfl) (by rfl)
              replace hR8 : VE (fun _ => True) (.mk 18 ⟨#[]⟩ 0 none 0 [(.mk 1 ⟨#[]⟩ 1 none 0 [] 0), (.mk 1 ⟨#[]⟩ 1 none 0 [] 0)] 0) v8 w := hR8
              obtain ⟨⟨k8, n8, m8, a8, c8, l8, p8⟩, rfl, i8, q8⟩ := hR8
              obtain ⟨v9, hv9, hR9⟩ := got_of hs 19 54 (by kernel_rfl) (by rfl)
              replace hR9 : VE (fun _ => True) (.mk 6 ⟨#[]⟩ 1 none 0 [(.mk 1 ⟨#[]⟩ 1 none 0 [] 0)] 0) v9 w := hR9
              obtain ⟨⟨k9, n9, m9, a9, c9, l9, p9⟩, rfl, i9, q9⟩ := hR9
              exact ⟨wanted_none rfl, _, w.alloc (.cells ⟨exCells [(Ex.mk k0 n0 m0 a0 c0 l0 p0), (Ex.mk k1 n1 m1 a1 c1 l1 p1), (Ex.mk k2 n2 m2 a2 c2 l2 p2), (Ex.mk k3 n3 m3 a3 c3 l3 p3), (Ex.mk k4 n4 m4 a4 c4 l4 p4), (Ex.mk k5 n5 m5 a5 c5 l5 p5), (Ex.mk k6 n6 m6 a6 c6 l6 p6), (Ex.mk k7 n7 m7 a7 c7 l7 p7), (Ex.mk k8 n8 m8 a8 c8 l8 p8), (Ex.mk k9 n9 m9 a9 c9 l9 p9)]⟩ 25), run_bs (qs := #[(0, .agg #[.int .u8 k0, .string n0, .int .i64 m0, .slice a0 l0.length c0, .int .i64 p0]), (1, .agg #[.int .u8 k1, .string n1, .int .i64 m1, .slice a1 l1.length c1, .int .i64 p1]), (2, .agg #[.int .u8 k2, .string n2, .int .i64 m2, .slice a2 l2.length c2, .int .i64 p2]), (3, .agg #[.int .u8 k3, .string n3, .int .i64 m3, .slice a3 l3.length c3, .int .i64 p3]), (4, .agg #[.int .u8 k4, .string n4, .int .i64 m4, .slice a4 l4.length c4, .int .i64 p4]), (5, .agg #[.int .u8 k5, .string n5, .int .i64 m5, .slice a5 l5.length c5, .int .i64 p5]), (6, .agg #[.int .u8 k6, .string n6, .int .i64 m6, .slice a6 l6.length c6, .int .i64 p6]), (7, .agg #[.int .u8 k7, .string n7, .int .i64 m7, .slice a7 l7.length c7, .int .i64 p7]), (8, .agg #[.int .u8 k8, .string n8, .int .i64 m8, .slice a8 l8.length c8, .int .i64 p8]), (9, .agg #[.int .u8 k9, .string n9, .int .i64 m9, .slice a9 l9.length c9, .int .i64 p9])]) rfl (by simp [ev hv0, ev hv1, ev hv2, ev hv3, ev hv4, ev hv5, ev hv6, ev hv7, ev hv8, ev hv9, Ex.vals]) (by kernel_rfl), hC.trans ((Ext.al w _).mono hC.size), Ext.al w _, (show Ex.erL [(Ex.mk k0 n0 m0 a0 c0 l0 p0), (Ex.mk k1 n1 m1 a1 c1 l1 p1), (Ex.mk k2 n2 m2 a2 c2 l2 p2), (Ex.mk k3 n3 m3 a3 c3 l3 p3), (Ex.mk k4 n4 m4 a4 c4 l4 p4), (Ex.mk k5 n5 m5 a5 c5 l5 p5), (Ex.mk k6 n6 m6 a6 c6 l6 p6), (Ex.mk k7 n7 m7 a7 c7 l7 p7), (Ex.mk k8 n8 m8 a8 c8 l8 p8), (Ex.mk k9 n9 m9 a9 c9 l9 p9)] = ([(.mk 0 ⟨#[]⟩ 0 none 0 [] 0), (.mk 1 ⟨#[]⟩ (-1) none 0 [] 0), (.mk 2 ⟨#[]⟩ 2 none 0 [] 0), (.mk 3 ⟨#[]⟩ 0 none 0 [] 0), (.mk 5 ⟨#[]⟩ 0 none 0 [(.mk 1 ⟨#[]⟩ 1 none 0 [] 0), (.mk 1 ⟨#[]⟩ 1 none 0 [] 0)] 0), (.mk 7 ⟨#[]⟩ 0 none 0 [(.mk 1 ⟨#[]⟩ 1 none 0 [] 0)] 0), (.mk 1 ⟨#[97]⟩ 0 none 0 [] 0), (.mk 4 ⟨#[97]⟩ 0 none 0 [] 0), (.mk 18 ⟨#[]⟩ 0 none 0 [(.mk 1 ⟨#[]⟩ 1 none 0 [] 0), (.mk 1 ⟨#[]⟩ 1 none 0 [] 0)] 0), (.mk 6 ⟨#[]⟩ 1 none 0 [(.mk 1 ⟨#[]⟩ 1 none 0 [] 0)] 0)] : List Ex) from (by rw [Ex.erL_cons, Ex.erL_cons, Ex.erL_cons, Ex.erL_cons, Ex.erL_cons, Ex.erL_cons, Ex.erL_cons, Ex.erL_cons, Ex.erL_cons, Ex.erL_cons, Ex.erL_nil, q0, q1, q2, q3, q4, q5, q6, q7, q8, q9])) ▸ exs_new (T := 25) [(Ex.mk k0 n0 m0 a0 c0 l0 p0), (Ex.mk k1 n1 m1 a1 c1 l1 p1), (Ex.mk k2 n2 m2 a2 c2 l2 p2), (Ex.mk k3 n3 m3 a3 c3 l3 p3), (Ex.mk k4 n4 m4 a4 c4 l4 p4), (Ex.mk k5 n5 m5 a5 c5 l5 p5), (Ex.mk k6 n6 m6 a6 c6 l6 p6), (Ex.mk k7 n7 m7 a7 c7 l7 p7), (Ex.mk k8 n8 m8 a8 c8 l8 p8), (Ex.mk k9 n9 m9 a9 c9 l9 p9)] (by simp) (inL_cons i0 (inL_cons i1 (inL_cons i2 (inL_cons i3 (inL_cons i4 (inL_cons i5 (inL_cons i6 (inL_cons i7 (inL_cons i8 (inL_cons i9 (inL_nil))))))))))) trivial⟩
            refine stepsL_cons (s_val fun a w hC hs => ?_) ?_
            · skip
              obtain ⟨v0, hv0, hR0⟩ := got_of hs 20 55 (by kernel_rfl) (by rfl)
              replace hR0 : VEs (fun _ => True) [(.mk 0 ⟨#[]⟩ 0 none 0 [] 0), (.mk 1 ⟨#[]⟩ (-1) none 0 [] 0), (.mk 2 ⟨#[]⟩ 2 none 0 [] 0), (.mk 3 ⟨#[]⟩ 0 none 0 [] 0), (.mk 5 ⟨#[]⟩ 0 none 0 [(.mk 1 ⟨#[]⟩ 1 none 0 [] 0), (.mk 1 ⟨#[]⟩ 1 none 0 [] 0)] 0), (.mk 7 ⟨#[]⟩ 0 none 0 [(.mk 1 ⟨#[]⟩ 1 none 0 [] 0)] 0), (.mk 1 ⟨#[97]⟩ 0 none 0 [] 0), (.mk 4 ⟨#[97]⟩ 0 none 0 [] 0), (.mk 18 ⟨#[]⟩ 0 none 0 [(.mk 1 ⟨#[]⟩ 1 none 0 [] 0), (.mk 1 ⟨#[]⟩ 1 none 0 [] 0)] 0), (.mk 6 ⟨#[]⟩ 1 none 0 [(.mk 1 ⟨#[]⟩ 1 none 0 [] 0)] 0)] v0 w := hR0
              obtain ⟨l0, a0, c0, rfl, r0, i0, q0⟩ := hR0
              have hlen : l0.length = 10 := by have h := congrArg List.length q0; simpa [Ex.erL_len] using h
              exact ⟨wanted_none rfl, _, run_len rfl (ev hv0) ln_exs, by rw [hlen]; rfl⟩
            refine stepsL_cons (s_val fun a w hC hs => ?_) ?_
            · skip
              exact ⟨wanted_none rfl, _, run_mv (Or.inl rfl) (ev_const _), rfl⟩
            exact stepsL_nil
          case hend =>
            intro σ V hC hR
            generalize hF : fillL _ _ _ _ _ = F
            simp [fillL, dstOf, List.range, List.range.loop, Act.put] at hF
            subst hF
            obtain ⟨l5, a5, c5, hv5, hrow5, hin5, her5⟩ := hR 20 (by simp)
            have h21 : σ 21 = .int .i64 10 := hR 21 (by simp)
            have h22 : σ 22 = .int .i64 0 := hR 22 (by simp)
            have hl5 : l5.length = 10 := by have h := congrArg List.length her5; rw [Ex.erL_len] at h; exact h
            rw [hv5, h21, h22, hl5]
            have y0 := below_in hC x0
            have y1 := below_in hC x1
            have y2 := below_in hC x2
            have y3 := below_in hC x3
            have y4 := below_in hC x4
            have htV := ht3.below hC
            have hbV : Hid (Below w.heap.size w V) := Lib.hid (hbb3.out.trans (hC.mono hbb3.out.size))
            clear x0 x1 x2 x3 x4 ht3 hbb3 hC hR hv5 h21 h22
            replace hrow5 := Lib.hid hrow5
            replace hin5 := Lib.hid hin5
            replace her5 := Lib.hid her5
            replace hl5 := Lib.hid hl5
            generalize σ 0 = s0
            generalize σ 1 = s1
            generalize σ 2 = s2
            generalize σ 3 = s3
            generalize σ 4 = s4
            generalize σ 5 = s5
            generalize σ 6 = s6
            generalize σ 7 = s7
            generalize σ 8 = s8
            generalize σ 9 = s9
            generalize σ 10 = s10
            generalize σ 11 = s11
            generalize σ 12 = s12
            generalize σ 13 = s13
            generalize σ 14 = s14
            generalize σ 15 = s15
            generalize σ 16 = s16
            generalize σ 17 = s17
            generalize σ 18 = s18
            generalize σ 19 = s19
            clear σ
            go_wp2_with fail
            go_loopw [57] (fun i wq => ∃ k : Nat, k ≤ 10 ∧ i = .int .i64 k ∧ Below V.heap.size V wq) (fun i _ => 10 - (intOf i).toNat)
            case atStart => exact ⟨0, by omega, rfl, Below.refl _ _⟩
            case round =>
              obtain ⟨k, hk, rfl, hbr⟩ := hrel
              by_cases hlt : k < 10
              · obtain ⟨e, he⟩ : ∃ e, l5[k]? = some e := ⟨l5[k]'(by rw [hl5.out]; exact hlt), by simp⟩
                obtain ⟨b6, o6, rfl, _, hcl⟩ := ex_row hrow5.out k e he
                have hie := Ex.In.below (Kps.of_below hbr) _ (hin5.out.get he)
                have hmy : mayE e = false ∧ e.sz ≤ 2097152 := by
                  have h1 : e.er ∈ Ex.erL l5 := by rw [Ex.erL_map]; exact List.mem_map_of_mem (List.mem_of_getElem? he)
                  rw [her5.out] at h1
                  have h2 := xs10_no _ h1
                  exact ⟨by rw [mayE_er]; exact h2.1, by rw [← Ex.er_sz]; exact h2.2⟩
                have htb := htV.below hbr
                have cE := fun U (h : Below wr.heap.size wr U) => (mayE_any e U (Ex.In.below (Kps.of_below h) _ hie) hmy.2 (htb.below h).toTabs).mono fun x w' h2 => (⟨by rw [h2.1, hmy.1], h.trans (h2.2.mono h.size)⟩ : x = .returned (.bool false) ∧ Below wr.heap.size wr w')
                replace cE := Lib.hid cE
                obtain ⟨ek, en, em, ea, ec, el, ep⟩ := e
                have z0 := below_in hbr (hcl 0 _ rfl)
                have z1 := below_in hbr (hcl 1 _ rfl)
                have z2 := below_in hbr (hcl 2 _ rfl)
                have z3 := below_in hbr (hcl 3 _ rfl)
                have z4 := below_in hbr (hcl 4 _ rfl)
                simp only [← Nat.add_assoc] at z0 z1 z2 z3 z4
                simp only [Nat.add_zero] at z0
                replace hbr := Lib.hid hbr
                clear hcl he hie hmy htb
                go_wp2_with fail
                refine (cE.out _ (Ext.al _ _)).mono ?_
                rintro x w' ⟨rfl, hbw⟩
                have hbw' := hbr.out.trans (hbw.mono hbr.out.size)
                clear z0 z1 z2 z3 z4 cE hbw
                go_wp2_with fail
                go_roundw
                case rel => exact ⟨k + 1, by omega, by go_num, hbw'⟩
                case measure => simp [intOf]; omega
              · obtain rfl : k = 10 := by omega
                clear hk hlt
                have x0 := below_in hbr y0
                have x1 := below_in hbr y1
                have x2 := below_in hbr y2
                have x3 := below_in hbr y3
                have x4 := below_in hbr y4
                have ht4 := htV.below hbr
                have hb4 : Hid (Below w.heap.size w wr) := Lib.hid (hbV.out.trans (hbr.mono hbV.out.size))
                clear y0 y1 y2 y3 y4 htV hbV hbr hrow5 hin5 her5 hl5
                go_upto_region 20 with fail
                refine wp_region_rel (C := fun V => Ext wr V) (E := Ext) (R := fun i => r20.getD i VT) (by kernel_rfl) (Below.refl _ _).drew (by kernel_rfl) (fun i v w w' _ hE h => mono_get r20 i r20_mono v w w' hE h) (steps_all ?hs) ?hend
                case hs =>
                  refine stepsL_cons (s_val fun a w hC hs => ?_) ?_
                  · skip
                    exact ⟨wanted_none rfl, _, run_b (qs := #[]) rfl (by simp) (by kernel_rfl), mk_st (by unfold U8; omega) (by unfold maxLen; decide) (by unfold maxLen; decide) exs_nil sts_nil sts_nil⟩
                  refine stepsL_cons (s_val fun a w hC hs => ?_) ?_
                  · have ho := old_of hs 1 (by kernel_rfl) (by rfl)
                    exact ⟨wanted_none rfl, _, run_ld rfl (ev ho) (ld_ex (below_in hC x0) (below_in hC x1) (below_in hC x2) (below_in hC x3) (below_in hC x4)), mk_ex (by unfold U8; omega) (by unfold maxLen; decide) (by unfold I64; omega) exs_nil⟩
                  refine stepsL_cons (s_new fun a w hC hs => ?_) ?_
                  · skip
                    obtain ⟨v0, hv0, hR0⟩ := got_of hs 1 65 (by kernel_rfl) (by rfl)
                    replace hR0 : VE (fun _ => True) (.mk 1 ⟨#[]⟩ 1 none 0 [] 0) v0 w := hR0
                    obtain ⟨⟨k0, n0, m0, a0, c0, l0, p0⟩, rfl, i0, q0⟩ := hR0
                    exact ⟨wanted_none rfl, _, w.alloc (.cells ⟨exCells [(Ex.mk k0 n0 m0 a0 c0 l0 p0)]⟩ 25), run_bs (qs := #[(0, .agg #[.int .u8 k0, .string n0, .int .i64 m0, .slice a0 l0.length c0, .int .i64 p0])]) rfl (by simp [ev hv0, Ex.vals]) (by kernel_rfl), hC.trans ((Ext.al w _).mono hC.size), Ext.al w _, (show Ex.erL [(Ex.mk k0 n0 m0 a0 c0 l0 p0)] = ([(.mk 1 ⟨#[]⟩ 1 none 0 [] 0)] : List Ex) from (by rw [Ex.erL_cons, Ex.erL_nil, q0])) ▸ exs_new (T := 25) [(Ex.mk k0 n0 m0 a0 c0 l0 p0)] (by simp) (inL_cons i0 (inL_nil)) trivial⟩
                  refine stepsL_cons (s_val fun a w hC hs => ?_) ?_
                  · skip
                    obtain ⟨v4, hv4, hR4⟩ := got_of hs 2 66 (by kernel_rfl) (by rfl)
                    replace hR4 : VEs (fun _ => True) [(.mk 1 ⟨#[]⟩ 1 none 0 [] 0)] v4 w := hR4
                    obtain ⟨l4, a4, c4, rfl, r4, i4, q4⟩ := hR4
                    exact ⟨wanted_none rfl, _, run_b (qs := #[(0, .int .u8 1), (4, .slice a4 l4.length c4)]) rfl (by simp [ev_const, ev hv4]) (by kernel_rfl), mk_st (by unfold U8; omega) (by unfold maxLen; decide) (by unfold maxLen; decide) ⟨l4, a4, c4, rfl, r4, i4, q4⟩ sts_nil sts_nil⟩
                  refine stepsL_cons (s_val fun a w hC hs => ?_) ?_
                  · skip
                    exact ⟨wanted_none rfl, _, run_b (qs := #[(0, .int .u8 1), (1, .string ⟨#[97]⟩)]) rfl (by simp [ev_const]) (by kernel_rfl), mk_st (by unfold U8; omega) (by unfold maxLen; decide) (by unfold maxLen; decide) exs_nil sts_nil sts_nil⟩
                  refine stepsL_cons (s_val fun a w hC hs => ?_) ?_
                  · have ho := old_of hs 1 (by kernel_rfl) (by rfl)
                    exact ⟨wanted_none rfl, _, run_ld rfl (ev ho) (ld_ex (below_in hC x0) (below_in hC x1) (below_in hC x2) (below_in hC x3) (below_in hC x4)), mk_ex (by unfold U8; omega) (by unfold maxLen; decide) (by unfold I64; omega) exs_nil⟩
                  refine stepsL_cons (s_new fun a w hC hs => ?_) ?_
                  · skip
                    obtain ⟨v0, hv0, hR0⟩ := got_of hs 5 69 (by kernel_rfl) (by rfl)
                    replace hR0 : VE (fun _ => True) (.mk 1 ⟨#[]⟩ 1 none 0 [] 0) v0 w := hR0
                    obtain ⟨⟨k0, n0, m0, a0, c0, l0, p0⟩, rfl, i0, q0⟩ := hR0
                    exact ⟨wanted_none rfl, _, w.alloc (.cells ⟨exCells [(Ex.mk k0 n0 m0 a0 c0 l0 p0)]⟩ 25), run_bs (qs := #[(0, .agg #[.int .u8 k0, .string n0, .int .i64 m0, .slice a0 l0.length c0, .int .i64 p0])]) rfl (by simp [ev hv0, Ex.vals]) (by kernel_rfl), hC.trans ((Ext.al w _).mono hC.size), Ext.al w _, (show Ex.erL [(Ex.mk k0 n0 m0 a0 c0 l0 p0)] = ([(.mk 1 ⟨#[]⟩ 1 none 0 [] 0)] : List Ex) from (by rw [Ex.erL_cons, Ex.erL_nil, q0])) ▸ exs_new (T := 25) [(Ex.mk k0 n0 m0 a0 c0 l0 p0)] (by simp) (inL_cons i0 (inL_nil)) trivial⟩
                  refine stepsL_cons (s_val fun a w hC hs => ?_) ?_
                  · skip
                    obtain ⟨v4, hv4, hR4⟩ := got_of hs 6 70 (by kernel_rfl) (by rfl)
                    replace hR4 : VEs (fun _ => True) [(.mk 1 ⟨#[]⟩ 1 none 0 [] 0)] v4 w := hR4
                    obtain ⟨l4, a4, c4, rfl, r4, i4, q4⟩ := hR4
                    exact ⟨wanted_none rfl, _, run_b (qs := #[(0, .int .u8 3), (1, .string ⟨#[97]⟩), (4, .slice a4 l4.length c4)]) rfl (by simp [ev_const, ev hv4]) (by kernel_rfl), mk_st (by unfold U8; omega) (by unfold maxLen; decide) (by unfold maxLen; decide) ⟨l4, a4, c4, rfl, r4, i4, q4⟩ sts_nil sts_nil⟩
                  refine stepsL_cons (s_val fun a w hC hs => ?_) ?_
                  · skip
                    exact ⟨wanted_none rfl, _, run_b (qs := #[(0, .int .u8 4)]) rfl (by simp [ev_const]) (by kernel_rfl), mk_st (by unfold U8; omega) (by unfold maxLen; decide) (by unfold maxLen; decide) exs_nil sts_nil sts_nil⟩
                  refine stepsL_cons (s_val fun a w hC hs => ?_) ?_
                  · have ho := old_of hs 1 (by kernel_rfl) (by rfl)
                    exact ⟨wanted_none rfl, _, run_ld rfl (ev ho) (ld_ex (below_in hC x0) (below_in hC x1) (below_in hC x2) (below_in hC x3) (below_in hC x4)), mk_ex (by unfold U8; omega) (by unfold maxLen; decide) (by unfold I64; omega) exs_nil⟩
                  refine stepsL_cons (s_new fun a w hC hs => ?_) ?_
                  · skip
                    obtain ⟨v0, hv0, hR0⟩ := got_of hs 9 73 (by kernel_rfl) (by rfl)
                    replace hR0 : VE (fun _ => True) (.mk 1 ⟨#[]⟩ 1 none 0 [] 0) v0 w := hR0
                    obtain ⟨⟨k0, n0, m0, a0, c0, l0, p0⟩, rfl, i0, q0⟩ := hR0
                    exact ⟨wanted_none rfl, _, w.alloc (.cells ⟨exCells [(Ex.mk k0 n0 m0 a0 c0 l0 p0)]⟩ 25), run_bs (qs := #[(0, .agg #[.int .u8 k0, .string n0, .int .i64 m0, .slice a0 l0.length c0, .int .i64 p0])]) rfl (by simp [ev hv0, Ex.vals]) (by kernel_rfl), hC.trans ((Ext.al w _).mono hC.size), Ext.al w _, (show Ex.erL [(Ex.mk k0 n0 m0 a0 c0 l0 p0)] = ([(.mk 1 ⟨#[]⟩ 1 none 0 [] 0)] : List Ex) from (by rw [Ex.erL_cons, Ex.erL_nil, q0])) ▸ exs_new (T := 25) [(Ex.mk k0 n0 m0 a0 c0 l0 p0)] (by simp) (inL_cons i0 (inL_nil)) trivial⟩
                  refine stepsL_cons (s_val fun a w hC hs => ?_) ?_
                  · have ho := old_of hs 1 (by kernel_rfl) (by rfl)
                    exact ⟨wanted_none rfl, _, run_ld rfl (ev ho) (ld_ex (below_in hC x0) (below_in hC x1) (below_in hC x2) (below_in hC x3) (below_in hC x4)), mk_ex (by unfold U8; omega) (by unfold maxLen; decide) (by unfold I64; omega) exs_nil⟩
                  refine stepsL_cons (s_new fun a w hC hs => ?_) ?_
                  · skip
                    obtain ⟨v0, hv0, hR0⟩ := got_of hs 11 75 (by kernel_rfl) (by rfl)
                    replace hR0 : VE (fun _ => True) (.mk 1 ⟨#[]⟩ 1 none 0 [] 0) v0 w := hR0
                    obtain ⟨⟨k0, n0, m0, a0, c0, l0, p0⟩, rfl, i0, q0⟩ := hR0
                    exact ⟨wanted_none rfl, _, w.alloc (.cells ⟨exCells [(Ex.mk k0 n0 m0 a0 c0 l0 p0)]⟩ 25), run_bs (qs := #[(0, .agg #[.int .u8 k0, .string n0, .int .i64 m0, .slice a0 l0.length c0, .int .i64 p0])]) rfl (by simp [ev hv0, Ex.vals]) (by kernel_rfl), hC.trans ((Ext.al w _).mono hC.size), Ext.al w _, (show Ex.erL [(Ex.mk k0 n0 m0 a0 c0 l0 p0)] = ([(.mk 1 ⟨#[]⟩ 1 none 0 [] 0)] : List Ex) from (by rw [Ex.erL_cons, Ex.erL_nil, q0])) ▸ exs_new (T := 25) [(Ex.mk k0 n0 m0 a0 c0 l0 p0)] (by simp) (inL_cons i0 (inL_nil)) trivial⟩
                  refine stepsL_cons (s_val fun a w hC hs => ?_) ?_
                  · skip
                    obtain ⟨v4, hv4, hR4⟩ := got_of hs 12 76 (by kernel_rfl) (by rfl)
                    replace hR4 : VEs (fun _ => True) [(.mk 1 ⟨#[]⟩ 1 none 0 [] 0)] v4 w := hR4
                    obtain ⟨l4, a4, c4, rfl, r4, i4, q4⟩ := hR4
                    exact ⟨wanted_none rfl, _, run_b (qs := #[(0, .int .u8 7), (4, .slice a4 l4.length c4)]) rfl (by simp [ev_const, ev hv4]) (by kernel_rfl), mk_st (by unfold U8; omega) (by unfold maxLen; decide) (by unfold maxLen; decide) ⟨l4, a4, c4, rfl, r4, i4, q4⟩ sts_nil sts_nil⟩
                  refine stepsL_cons (s_new fun a w hC hs => ?_) ?_
                  · skip
                    obtain ⟨v0, hv0, hR0⟩ := got_of hs 13 77 (by kernel_rfl) (by rfl)
                    replace hR0 : VS (fun _ => True) (.mk 7 ⟨#[]⟩ ⟨#[]⟩ false none 0 [(.mk 1 ⟨#[]⟩ 1 none 0 [] 0)] none 0 [] none 0 [] 0) v0 w := hR0
                    obtain ⟨⟨k0, n0, t0, w0, a0, c0, l0, x0, y0, z0, e0, f0, g0, p0⟩, rfl, i0, q0⟩ := hR0
                    exact ⟨wanted_none rfl, _, w.alloc (.cells ⟨stCells [(St.mk k0 n0 t0 w0 a0 c0 l0 x0 y0 z0 e0 f0 g0 p0)]⟩ 38), run_bs (qs := #[(0, .agg #[.int .u8 k0, .string n0, .string t0, .bool w0, .slice a0 l0.length c0, .slice x0 z0.length y0, .slice e0 g0.length f0, .int .i64 p0])]) rfl (by simp [ev hv0, St.vals]) (by kernel_rfl), hC.trans ((Ext.al w _).mono hC.size), Ext.al w _, (show St.erL [(St.mk k0 n0 t0 w0 a0 c0 l0 x0 y0 z0 e0 f0 g0 p0)] = ([(.mk 7 ⟨#[]⟩ ⟨#[]⟩ false none 0 [(.mk 1 ⟨#[]⟩ 1 none 0 [] 0)] none 0 [] none 0 [] 0)] : List St) from (by rw [St.erL_cons, St.erL_nil, q0])) ▸ sts_new (T := 38) [(St.mk k0 n0 t0 w0 a0 c0 l0 x0 y0 z0 e0 f0 g0 p0)] (by simp) (isL_cons i0 (isL_nil)) trivial⟩
                  refine stepsL_cons (s_val fun a w hC hs => ?_) ?_
                  · skip
                    obtain ⟨v4, hv4, hR4⟩ := got_of hs 10 74 (by kernel_rfl) (by rfl)
                    replace hR4 : VEs (fun _ => True) [(.mk 1 ⟨#[]⟩ 1 none 0 [] 0)] v4 w := hR4
                    obtain ⟨l4, a4, c4, rfl, r4, i4, q4⟩ := hR4
                    obtain ⟨v6, hv6, hR6⟩ := got_of hs 14 78 (by kernel_rfl) (by rfl)
                    replace hR6 : VSs (fun _ => True) [(.mk 7 ⟨#[]⟩ ⟨#[]⟩ false none 0 [(.mk 1 ⟨#[]⟩ 1 none 0 [] 0)] none 0 [] none 0 [] 0)] v6 w := hR6
                    obtain ⟨l6, a6, c6, rfl, r6, i6, q6⟩ := hR6
                    exact ⟨wanted_none rfl, _, run_b (qs := #[(0, .int .u8 5), (4, .slice a4 l4.length c4), (6, .slice a6 l6.length c6)]) rfl (by simp [ev_const, ev hv4, ev hv6]) (by kernel_rfl), mk_st (by unfold U8; omega) (by unfold maxLen; decide) (by unfold maxLen; decide) ⟨l4, a4, c4, rfl, r4, i4, q4⟩ sts_nil ⟨l6, a6, c6, rfl, r6, i6, q6⟩⟩
                  refine stepsL_cons (s_val fun a w hC hs => ?_) ?_
                  · skip
                    exact ⟨wanted_none rfl, _, run_b (qs := #[(0, .int .u8 6)]) rfl (by simp [ev_const]) (by kernel_rfl), mk_st (by unfold U8; omega) (by unfold maxLen; decide) (by unfold maxLen; decide) exs_nil sts_nil sts_nil⟩
                  refine stepsL_cons (s_val fun a w hC hs => ?_) ?_
                  · have ho := old_of hs 1 (by kernel_rfl) (by rfl)
                    exact ⟨wanted_none rfl, _, run_ld rfl (ev ho) (ld_ex (below_in hC x0) (below_in hC x1) (below_in hC x2) (below_in hC x3) (below_in hC x4)), mk_ex (by unfold U8; omega) (by unfold maxLen; decide) (by unfold I64; omega) exs_nil⟩
                  refine stepsL_cons (s_new fun a w hC hs => ?_) ?_
                  · skip
                    obtain ⟨v0, hv0, hR0⟩ := got_of hs 17 81 (by kernel_rfl) (by rfl)
                    replace hR0 : VE (fun _ => True) (.mk 1 ⟨#[]⟩ 1 none 0 [] 0) v0 w := hR0
                    obtain ⟨⟨k0, n0, m0, a0, c0, l0, p0⟩, rfl, i0, q0⟩ := hR0
                    exact ⟨wanted_none rfl, _, w.alloc (.cells ⟨exCells [(Ex.mk k0 n0 m0 a0 c0 l0 p0)]⟩ 25), run_bs (qs := #[(0, .agg #[.int .u8 k0, .string n0, .int .i64 m0, .slice a0 l0.length c0, .int .i64 p0])]) rfl (by simp [ev hv0, Ex.vals]) (by kernel_rfl), hC.trans ((Ext.al w _).mono hC.size), Ext.al w _, (show Ex.erL [(Ex.mk k0 n0 m0 a0 c0 l0 p0)] = ([(.mk 1 ⟨#[]⟩ 1 none 0 [] 0)] : List Ex) from (by rw [Ex.erL_cons, Ex.erL_nil, q0])) ▸ exs_new (T := 25) [(Ex.mk k0 n0 m0 a0 c0 l0 p0)] (by simp) (inL_cons i0 (inL_nil)) trivial⟩
                  refine stepsL_cons (s_val fun a w hC hs => ?_) ?_
                  · skip
                    obtain ⟨v4, hv4, hR4⟩ := got_of hs 18 82 (by kernel_rfl) (by rfl)
                    replace hR4 : VEs (fun _ => True) [(.mk 1 ⟨#[]⟩ 1 none 0 [] 0)] v4 w := hR4
                    obtain ⟨l4, a4, c4, rfl, r4, i4, q4⟩ := hR4
                    exact ⟨wanted_none rfl, _, run_b (qs := #[(0, .int .u8 7), (1, .string ⟨#[97]⟩), (4, .slice a4 l4.length c4)]) rfl (by simp [ev_const, ev hv4]) (by kernel_rfl), mk_st (by unfold U8; omega) (by unfold maxLen; decide) (by unfold maxLen; decide) ⟨l4, a4, c4, rfl, r4, i4, q4⟩ sts_nil sts_nil⟩
                  refine stepsL_cons (s_val fun a w hC hs => ?_) ?_
                  · skip
                    exact ⟨wanted_none rfl, _, run_b (qs := #[(0, .int .u8 8), (1, .string ⟨#[102]⟩), (3, .bool true)]) rfl (by simp [ev_const]) (by kernel_rfl), mk_st (by unfold U8; omega) (by unfold maxLen; decide) (by unfold maxLen; decide) exs_nil sts_nil sts_nil⟩
                  refine stepsL_cons (s_val fun a w hC hs => ?_) ?_
                  · skip
                    exact ⟨wanted_none rfl, _, run_b (qs := #[(0, .int .u8 8), (1, .string ⟨#[102]⟩), (2, .string ⟨#[105, 102]⟩)]) rfl (by simp [ev_const]) (by kernel_rfl), mk_st (by unfold U8; omega) (by unfold maxLen; decide) (by unfold maxLen; decide) exs_nil sts_nil sts_nil⟩
                  refine stepsL_cons (s_new fun a w hC hs => ?_) ?_
                  · skip
                    exact ⟨wanted_none rfl, _, w.alloc (.cells ⟨exCells (List.replicate 9 (Ex.mk 0 ⟨#[]⟩ 0 none 0 [] 0))⟩ 25), run_ms rfl (ev_const _) (ev_const _) (by kernel_rfl), hC.trans ((Ext.al w _).mono hC.size), Ext.al w _, (show Ex.erL (List.replicate 9 (Ex.mk 0 ⟨#[]⟩ 0 none 0 [] 0)) = ([(.mk 0 ⟨#[]⟩ 0 none 0 [] 0), (.mk 0 ⟨#[]⟩ 0 none 0 [] 0), (.mk 0 ⟨#[]⟩ 0 none 0 [] 0), (.mk 0 ⟨#[]⟩ 0 none 0 [] 0), (.mk 0 ⟨#[]⟩ 0 none 0 [] 0), (.mk 0 ⟨#[]⟩ 0 none 0 [] 0), (.mk 0 ⟨#[]⟩ 0 none 0 [] 0), (.mk 0 ⟨#[]⟩ 0 none 0 [] 0), (.mk 0 ⟨#[]⟩ 0 none 0 [] 0)] : List Ex) from by rfl) ▸ exs_new (T := 25) (List.replicate 9 (Ex.mk 0 ⟨#[]⟩ 0 none 0 [] 0)) (by simp) zeros9 trivial⟩
                  refine stepsL_cons (s_val fun a w hC hs => ?_) ?_
                  · skip
                    obtain ⟨v4, hv4, hR4⟩ := got_of hs 22 86 (by kernel_rfl) (by rfl)
                    replace hR4 : VEs (fun _ => True) [(.mk 0 ⟨#[]⟩ 0 none 0 [] 0), (.mk 0 ⟨#[]⟩ 0 none 0 [] 0), (.mk 0 ⟨#[]⟩ 0 none 0 [] 0), (.mk 0 ⟨#[]⟩ 0 none 0 [] 0), (.mk 0 ⟨#[]⟩ 0 none 0 [] 0), (.mk 0 ⟨#[]⟩ 0 none 0 [] 0), (.mk 0 ⟨#[]⟩ 0 none 0 [] 0), (.mk 0 ⟨#[]⟩ 0 none 0 [] 0), (.mk 0 ⟨#[]⟩ 0 none 0 [] 0)] v4 w := hR4
                    obtain ⟨l4, a4, c4, rfl, r4, i4, q4⟩ := hR4
                    exact ⟨wanted_none rfl, _, run_b (qs := #[(0, .int .u8 8), (1, .string ⟨#[102]⟩), (4, .slice a4 l4.length c4)]) rfl (by simp [ev_const, ev hv4]) (by kernel_rfl), mk_st (by unfold U8; omega) (by unfold maxLen; decide) (by unfold maxLen; decide) ⟨l4, a4, c4, rfl, r4, i4, q4⟩ sts_nil sts_nil⟩
                  refine stepsL_cons (s_val fun a w hC hs => ?_) ?_
                  · skip
                    exact ⟨wanted_none rfl, _, run_b (qs := #[(0, .int .u8 9)]) rfl (by simp [ev_const]) (by kernel_rfl), mk_st (by unfold U8; omega) (by unfold maxLen; decide) (by unfold maxLen; decide) exs_nil sts_nil sts_nil⟩
                  refine stepsL_cons (s_val fun a w hC hs => ?_) ?_
                  · have ho := old_of hs 1 (by kernel_rfl) (by rfl)
                    exact ⟨wanted_none rfl, _, run_ld rfl (ev ho) (ld_ex (below_in hC x0) (below_in hC x1) (below_in hC x2) (below_in hC x3) (below_in hC x4)), mk_ex (by unfold U8; omega) (by unfold maxLen; decide) (by unfold I64; omega) exs_nil⟩
                  refine stepsL_cons (s_new fun a w hC hs => ?_) ?_
                  · skip
                    obtain ⟨v0, hv0, hR0⟩ := got_of hs 25 89 (by kernel_rfl) (by rfl)
                    replace hR0 : VE (fun _ => True) (.mk 1 ⟨#[]⟩ 1 none 0 [] 0) v0 w := hR0
                    obtain ⟨⟨k0, n0, m0, a0, c0, l0, p0⟩, rfl, i0, q0⟩ := hR0
                    exact ⟨wanted_none rfl, _, w.alloc (.cells ⟨exCells [(Ex.mk k0 n0 m0 a0 c0 l0 p0)]⟩ 25), run_bs (qs := #[(0, .agg #[.int .u8 k0, .string n0, .int .i64 m0, .slice a0 l0.length c0, .int .i64 p0])]) rfl (by simp [ev hv0, Ex.vals]) (by kernel_rfl), hC.trans ((Ext.al w _).mono hC.size), Ext.al w _, (show Ex.erL [(Ex.mk k0 n0 m0 a0 c0 l0 p0)] = ([(.mk 1 ⟨#[]⟩ 1 none 0 [] 0)] : List Ex) from (by rw [Ex.erL_cons, Ex.erL_nil, q0])) ▸ exs_new (T := 25) [(Ex.mk k0 n0 m0 a0 c0 l0 p0)] (by simp) (inL_cons i0 (inL_nil)) trivial⟩
                  refine stepsL_cons (s_val fun a w hC hs => ?_) ?_
                  · skip
                    obtain ⟨v4, hv4, hR4⟩ := got_of hs 26 90 (by kernel_rfl) (by rfl)
                    replace hR4 : VEs (fun _ => True) [(.mk 1 ⟨#[]⟩ 1 none 0 [] 0)] v4 w := hR4
                    obtain ⟨l4, a4, c4, rfl, r4, i4, q4⟩ := hR4
                    exact ⟨wanted_none rfl, _, run_b (qs := #[(0, .int .u8 2), (1, .string ⟨#[97]⟩), (2, .string ⟨#[98]⟩), (4, .slice a4 l4.length c4)]) rfl (by simp [ev_const, ev hv4]) (by kernel_rfl), mk_st (by unfold U8; omega) (by unfold maxLen; decide) (by unfold maxLen; decide) ⟨l4, a4, c4, rfl, r4, i4, q4⟩ sts_nil sts_nil⟩
                  refine stepsL_cons (s_new fun a w hC hs => ?_) ?_
                  · skip
                    obtain ⟨v0, hv0, hR0⟩ := got_of hs 0 64 (by kernel_rfl) (by rfl)
                    replace hR0 : VS (fun _ => True) (.mk 0 ⟨#[]⟩ ⟨#[]⟩ false none 0 [] none 0 [] none 0 [] 0) v0 w := hR0
                    obtain ⟨⟨k0, n0, t0, w0, a0, c0, l0, x0, y0, z0, e0, f0, g0, p0⟩, rfl, i0, q0⟩ := hR0
                    obtain ⟨v1, hv1, hR1⟩ := got_of hs 3 67 (by kernel_rfl) (by rfl)
                    replace hR1 : VS (fun _ => True) (.mk 1 ⟨#[]⟩ ⟨#[]⟩ false none 0 [(.mk 1 ⟨#[]⟩ 1 none 0 [] 0)] none 0 [] none 0 [] 0) v1 w := hR1
                    obtain ⟨⟨k1, n1, t1, w1, a1, c1, l1, x1, y1, z1, e1, f1, g1, p1⟩, rfl, i1, q1⟩ := hR1
                    obtain ⟨v2, hv2, hR2⟩ := got_of hs 4 68 (by kernel_rfl) (by rfl)
                    replace hR2 : VS (fun _ => True) (.mk 1 ⟨#[97]⟩ ⟨#[]⟩ false none 0 [] none 0 [] none 0 [] 0) v2 w := hR2
                    obtain ⟨⟨k2, n2, t2, w2, a2, c2, l2, x2, y2, z2, e2, f2, g2, p2⟩, rfl, i2, q2⟩ := hR2
                    obtain ⟨v3, hv3, hR3⟩ := got_of hs 7 71 (by kernel_rfl) (by rfl)
                    replace hR3 : VS (fun _ => True) (.mk 3 ⟨#[97]⟩ ⟨#[]⟩ false none 0 [(.mk 1 ⟨#[]⟩ 1 none 0 [] 0)] none 0 [] none 0 [] 0) v3 w := hR3
                    obtain ⟨⟨k3, n3, t3, w3, a3, c3, l3, x3, y3, z3, e3, f3, g3, p3⟩, rfl, i3, q3⟩ := hR3
                    obtain ⟨v4, hv4, hR4⟩ := got_of hs 8 72 (by kernel_rfl) (by rfl)
                    replace hR4 : VS (fun _ => True) (.mk 4 ⟨#[]⟩ ⟨#[]⟩ false none 0 [] none 0 [] none 0 [] 0) v4 w := hR4
                    obtain ⟨⟨k4, n4, t4, w4, a4, c4, l4, x4, y4, z4, e4, f4, g4, p4⟩, rfl, i4, q4⟩ := hR4
                    obtain ⟨v5, hv5, hR5⟩ := got_of hs 15 79 (by kernel_rfl) (by rfl)
                    replace hR5 : VS (fun _ => True) (.mk 5 ⟨#[]⟩ ⟨#[]⟩ false none 0 [(.mk 1 ⟨#[]⟩ 1 none 0 [] 0)] none 0 [] none 0 [(.mk 7 ⟨#[]⟩ ⟨#[]⟩ false none 0 [(.mk 1 ⟨#[]⟩ 1 none 0 [] 0)] none 0 [] none 0 [] 0)] 0) v5 w := hR5
                    obtain ⟨⟨k5, n5, t5, w5, a5, c5, l5, x5, y5, z5, e5, f5, g5, p5⟩, rfl, i5, q5⟩ := hR5
                    obtain ⟨v6, hv6, hR6⟩ := got_of hs 16 80 (by kernel_rfl) (by rfl)
                    replace hR6 : VS (fun _ => True) (.mk 6 ⟨#[]⟩ ⟨#[]⟩ false none 0 [] none 0 [] none 0 [] 0) v6 w := hR6
                    obtain ⟨⟨k6, n6, t6, w6, a6, c6, l6, x6, y6, z6, e6, f6, g6, p6⟩, rfl, i6, q6⟩ := hR6
                    obtain ⟨v7, hv7, hR7⟩ := got_of hs 19 83 (by kernel_rfl) (by rfl)
                    replace hR7 : VS (fun _ => True) (.mk 7 ⟨#[97]⟩ ⟨#[]⟩ false none 0 [(.mk 1 ⟨#[]⟩ 1 none 0 [] 0)] none 0 [] none 0 [] 0) v7 w := hR7
                    obtain ⟨⟨k7, n7, t7, w7, a7, c7, l7, x7, y7, z7, e7, f7, g7, p7⟩, rfl, i7, q7⟩ := hR7
                    obtain ⟨v8, hv8, hR8⟩ := got_of hs 20 84 (by kernel_rfl) (by rfl)
                    replace hR8 : VS (fun _ => True) (.mk 8 ⟨#[102]⟩ ⟨#[]⟩ true none 0 [] none 0 [] none 0 [] 0) v8 w := hR8
                    obtain ⟨⟨k8, n8, t8, w8, a8, c8, l8, x8, y8, z8, e8, f8, g8, p8⟩, rfl, i8, q8⟩ := hR8
                    obtain ⟨v9, hv9, hR9⟩ := got_of hs 21 85 (by kernel_rfl) (by rfl)
                    replace hR9 : VS (fun _ => True) (.mk 8 ⟨#[102]⟩ ⟨#[105, 102]⟩ false none 0 [] none 0 [] none 0 [] 0) v9 w := hR9
                    obtain ⟨⟨k9, n9, t9, w9, a9, c9, l9, x9, y9, z9, e9, f9, g9, p9⟩, rfl, i9, q9⟩ := hR9
                    obtain ⟨v10, hv10, hR10⟩ := got_of hs 23 87 (by kernel_rfl) (by rfl)
                    replace hR10 : VS (fun _ => True) (.mk 8 ⟨#[102]⟩ ⟨#[]⟩ false none 0 [(.mk 0 ⟨#[]⟩ 0 none 0 [] 0), (.mk 0 ⟨#[]⟩ 0 none 0 [] 0), (.mk 0 ⟨#[]⟩ 0 none 0 [] 0), (.mk 0 ⟨#[]⟩ 0 none 0 [] 0), (.mk 0 ⟨#[]⟩ 0 none 0 [] 0), (.mk 0 ⟨#[]⟩ 0 none 0 [] 0), (.mk 0 ⟨#[]⟩ 0 none 0 [] 0), (.mk 0 ⟨#[]⟩ 0 none 0 [] 0), (.mk 0 ⟨#[]⟩ 0 none 0 [] 0)] none 0 [] none 0 [] 0) v10 w := hR10
                    obtain ⟨⟨k10, n10, t10, w10, a10, c10, l10, x10, y10, z10, e10, f10, g10, p10⟩, rfl, i10, q10⟩ := hR10
                    obtain ⟨v11, hv11, hR11⟩ := got_of hs 24 88 (by kernel_rfl) (by rfl)
                    replace hR11 : VS (fun _ => True) (.mk 9 ⟨#[]⟩ ⟨#[]⟩ false none 0 [] none 0 [] none 0 [] 0) v11 w := hR11
                    obtain ⟨⟨k11, n11, t11, w11, a11, c11, l11, x11, y11, z11, e11, f11, g11, p11⟩, rfl, i11, q11⟩ := hR11
                    obtain ⟨v12, hv12, hR12⟩ := got_of hs 27 91 (by kernel_rfl) (by rfl)
                    replace hR12 : VS (fun _ => True) (.mk 2 ⟨#[97]⟩ ⟨#[98]⟩ false none 0 [(.mk 1 ⟨#[]⟩ 1 none 0 [] 0)] none 0 [] none 0 [] 0) v12 w := hR12
                    obtain ⟨⟨k12, n12, t12, w12, a12, c12, l12, x12, y12, z12, e12, f12, g12, p12⟩, rfl, i12, q12⟩ := hR12
                    exact ⟨wanted_none rfl, _, w.alloc (.cells ⟨stCells [(St.mk k0 n0 t0 w0 a0 c0 l0 x0 y0 z0 e0 f0 g0 p0), (St.mk k1 n1 t1 w1 a1 c1 l1 x1 y1 z1 e1 f1 g1 p1), (St.mk k2 n2 t2 w2 a2 c2 l2 x2 y2 z2 e2 f2 g2 p2), (St.mk k3 n3 t3 w3 a3 c3 l3 x3 y3 z3 e3 f3 g3 p3), (St.mk k4 n4 t4 w4 a4 c4 l4 x4 y4 z4 e4 f4 g4 p4), (St.mk k5 n5 t5 w5 a5 c5 l5 x5 y5 z5 e5 f5 g5 p5), (St.mk k6 n6 t6 w6 a6 c6 l6 x6 y6 z6 e6 f6 g6 p6), (St.mk k7 n7 t7 w7 a7 c7 l7 x7 y7 z7 e7 f7 g7 p7), (St.mk k8 n8 t8 w8 a8 c8 l8 x8 y8 z8 e8 f8 g8 p8), (St.mk k9 n9 t9 w9 a9 c9 l9 x9 y9 z9 e9 f9 g9 p9), (St.mk k10 n10 t10 w10 a10 c10 l10 x10 y10 z10 e10 f10 g10 p10), (St.mk k11 n11 t11 w11 a11 c11 l11 x11 y11 z11 e11 f11 g11 p11), (St.mk k12 n12 t12 w12 a12 c12 l12 x12 y12 z12 e12 f12 g12 p12)]⟩ 38), run_bs (qs := #[(0, .agg #[.int .u8 k0, .string n0, .string t0, .bool w0, .slice a0 l0.length c0, .slice x0 z0.length y0, .slice e0 g0.length f0, .int .i64 p0]), (1, .agg #[.int .u8 k1, .string n1, .string t1, .bool w1, .slice a1 l1.length c1, .slice x1 z1.length y1, .slice e1 g1.length f1, .int .i64 p1]), (2, .agg #[.int .u8 k2, .string n2, .string t2, .bool w2, .slice a2 l2.length c2, .slice x2 z2.length y2, .slice e2 g2.length f2, .int .i64 p2]), (3, .agg #[.int .u8 k3, .string n3, .string t3, .bool w3, .slice a3 l3.length c3, .slice x3 z3.length y3, .slice e3 g3.length f3, .int .i64 p3]), (4, .agg #[.int .u8 k4, .string n4, .string t4, .bool w4, .slice a4 l4.length c4, .slice x4 z4.length y4, .slice e4 g4.length f4, .int .i64 p4]), (5, .agg #[.int .u8 k5, .string n5, .string t5, .bool w5, .slice a5 l5.length c5, .slice x5 z5.length y5, .slice e5 g5.length f5, .int .i64 p5]), (6, .agg #[.int .u8 k6, .string n6, .string t6, .bool w6, .slice a6 l6.length c6, .slice x6 z6.length y6, .slice e6 g6.length f6, .int .i64 p6]), (7, .agg #[.int .u8 k7, .string n7, .string t7, .bool w7, .slice a7 l7.length c7, .slice x7 z7.length y7, .slice e7 g7.length f7, .int .i64 p7]), (8, .agg #[.int .u8 k8, .string n8, .string t8, .bool w8, .slice a8 l8.length c8, .slice x8 z8.length y8, .slice e8 g8.length f8, .int .i64 p8]), (9, .agg #[.int .u8 k9, .string n9, .string t9, .bool w9, .slice a9 l9.length c9, .slice x9 z9.length y9, .slice e9 g9.length f9, .int .i64 p9]), (10, .agg #[.int .u8 k10, .string n10, .string t10, .bool w10, .slice a10 l10.length c10, .slice x10 z10.length y10, .slice e10 g10.length f10, .int .i64 p10]), (11, .agg #[.int .u8 k11, .string n11, .string t11, .bool w11, .slice a11 l11.length c11, .slice x11 z11.length y11, .slice e11 g11.length f11, .int .i64 p11]), (12, .agg #[.int .u8 k12, .string n12, .string t12, .bool w12, .slice a12 l12.length c12, .slice x12 z12.length y12, .slice e12 g12.length f12, .int .i64 p12])]) rfl (by simp [ev hv0, ev hv1, ev hv2, ev hv3, ev hv4, ev hv5, ev hv6, ev hv7, ev hv8, ev hv9, ev hv10, ev hv11, ev hv12, St.vals]) (by kernel_rfl), hC.trans ((Ext.al w _).mono hC.size), Ext.al w _, (show St.erL [(St.mk k0 n0 t0 w0 a0 c0 l0 x0 y0 z0 e0 f0 g0 p0), (St.mk k1 n1 t1 w1 a1 c1 l1 x1 y1 z1 e1 f1 g1 p1), (St.mk k2 n2 t2 w2 a2 c2 l2 x2 y2 z2 e2 f2 g2 p2), (St.mk k3 n3 t3 w3 a3 c3 l3 x3 y3 z3 e3 f3 g3 p3), (St.mk k4 n4 t4 w4 a4 c4 l4 x4 y4 z4 e4 f4 g4 p4), (St.mk k5 n5 t5 w5 a5 c5 l5 x5 y5 z5 e5 f5 g5 p5), (St.mk k6 n6 t6 w6 a6 c6 l6 x6 y6 z6 e6 f6 g6 p6), (St.mk k7 n7 t7 w7 a7 c7 l7 x7 y7 z7 e7 f7 g7 p7), (St.mk k8 n8 t8 w8 a8 c8 l8 x8 y8 z8 e8 f8 g8 p8), (St.mk k9 n9 t9 w9 a9 c9 l9 x9 y9 z9 e9 f9 g9 p9), (St.mk k10 n10 t10 w10 a10 c10 l10 x10 y10 z10 e10 f10 g10 p10), (St.mk k11 n11 t11 w11 a11 c11 l11 x11 y11 z11 e11 f11 g11 p11), (St.mk k12 n12 t12 w12 a12 c12 l12 x12 y12 z12 e12 f12 g12 p12)] = ([(.mk 0 ⟨#[]⟩ ⟨#[]⟩ false none 0 [] none 0 [] none 0 [] 0), (.mk 1 ⟨#[]⟩ ⟨#[]⟩ false none 0 [(.mk 1 ⟨#[]⟩ 1 none 0 [] 0)] none 0 [] none 0 [] 0), (.mk 1 ⟨#[97]⟩ ⟨#[]⟩ false none 0 [] none 0 [] none 0 [] 0), (.mk 3 ⟨#[97]⟩ ⟨#[]⟩ false none 0 [(.mk 1 ⟨#[]⟩ 1 none 0 [] 0)] none 0 [] none 0 [] 0), (.mk 4 ⟨#[]⟩ ⟨#[]⟩ false none 0 [] none 0 [] none 0 [] 0), (.mk 5 ⟨#[]⟩ ⟨#[]⟩ false none 0 [(.mk 1 ⟨#[]⟩ 1 none 0 [] 0)] none 0 [] none 0 [(.mk 7 ⟨#[]⟩ ⟨#[]⟩ false none 0 [(.mk 1 ⟨#[]⟩ 1 none 0 [] 0)] none 0 [] none 0 [] 0)] 0), (.mk 6 ⟨#[]⟩ ⟨#[]⟩ false none 0 [] none 0 [] none 0 [] 0), (.mk 7 ⟨#[97]⟩ ⟨#[]⟩ false none 0 [(.mk 1 ⟨#[]⟩ 1 none 0 [] 0)] none 0 [] none 0 [] 0), (.mk 8 ⟨#[102]⟩ ⟨#[]⟩ true none 0 [] none 0 [] none 0 [] 0), (.mk 8 ⟨#[102]⟩ ⟨#[105, 102]⟩ false none 0 [] none 0 [] none 0 [] 0), (.mk 8 ⟨#[102]⟩ ⟨#[]⟩ false none 0 [(.mk 0 ⟨#[]⟩ 0 none 0 [] 0), (.mk 0 ⟨#[]⟩ 0 none 0 [] 0), (.mk 0 ⟨#[]⟩ 0 none 0 [] 0), (.mk 0 ⟨#[]⟩ 0 none 0 [] 0), (.mk 0 ⟨#[]⟩ 0 none 0 [] 0), (.mk 0 ⟨#[]⟩ 0 none 0 [] 0), (.mk 0 ⟨#[]⟩ 0 none 0 [] 0), (.mk 0 ⟨#[]⟩ 0 none 0 [] 0), (.mk 0 ⟨#[]⟩ 0 none 0 [] 0)] none 0 [] none 0 [] 0), (.mk 9 ⟨#[]⟩ ⟨#[]⟩ false none 0 [] none 0 [] none 0 [] 0), (.mk 2 ⟨#[97]⟩ ⟨#[98]⟩ false none 0 [(.mk 1 ⟨#[]⟩ 1 none 0 [] 0)] none 0 [] none 0 [] 0)] : List St) from (by rw [St.erL_cons, St.erL_cons, St.erL_cons, St.erL_cons, St.erL_cons, St.erL_cons, St.erL_cons, St.erL_cons, St.erL_cons, St.erL_cons, St.erL_cons, St.erL_cons, St.erL_cons, St.erL_nil, q0, q1, q2, q3, q4, q5, q6, q7, q8, q9, q10, q11, q12])) ▸ sts_new (T := 38) [(St.mk k0 n0 t0 w0 a0 c0 l0 x0 y0 z0 e0 f0 g0 p0), (St.mk k1 n1 t1 w1 a1 c1 l1 x1 y1 z1 e1 f1 g1 p1), (St.mk k2 n2 t2 w2 a2 c2 l2 x2 y2 z2 e2 f2 g2 p2), (St.mk k3 n3 t3 w3 a3 c3 l3 x3 y3 z3 e3 f3 g3 p3), (St.mk k4 n4 t4 w4 a4 c4 l4 x4 y4 z4 e4 f4 g4 p4), (St.mk k5 n5 t5 w5 a5 c5 l5 x5 y5 z5 e5 f5 g5 p5), (St.mk k6 n6 t6 w6 a6 c6 l6 x6 y6 z6 e6 f6 g6 p6), (St.mk k7 n7 t7 w7 a7 c7 l7 x7 y7 z7 e7 f7 g7 p7), (St.mk k8 n8 t8 w8 a8 c8 l8 x8 y8 z8 e8 f8 g8 p8), (St.mk k9 n9 t9 w9 a9 c9 l9 x9 y9 z9 e9 f9 g9 p9), (St.mk k10 n10 t10 w10 a10 c10 l10 x10 y10 z10 e10 f10 g10 p10), (St.mk k11 n11 t11 w11 a11 c11 l11 x11 y11 z11 e11 f11 g11 p11), (St.mk k12 n12 t12 w12 a12 c12 l12 x12 y12 z12 e12 f12 g12 p12)] (by simp) (isL_cons i0 (isL_cons i1 (isL_cons i2 (isL_cons i3 (isL_cons i4 (isL_cons i5 (isL_cons i6 (isL_cons i7 (isL_cons i8 (isL_cons i9 (isL_cons i10 (isL_cons i11 (isL_cons i12 (isL_nil)))))))))))))) trivial⟩
                  refine stepsL_cons (s_val fun a w hC hs => ?_) ?_
                  · skip
                    obtain ⟨v0, hv0, hR0⟩ := got_of hs 28 92 (by kernel_rfl) (by rfl)
                    replace hR0 : VSs (fun _ => True) [(.mk 0 ⟨#[]⟩ ⟨#[]⟩ false none 0 [] none 0 [] none 0 [] 0), (.mk 1 ⟨#[]⟩ ⟨#[]⟩ false none 0 [(.mk 1 ⟨#[]⟩ 1 none 0 [] 0)] none 0 [] none 0 [] 0), (.mk 1 ⟨#[97]⟩ ⟨#[]⟩ false none 0 [] none 0 [] none 0 [] 0), (.mk 3 ⟨#[97]⟩ ⟨#[]⟩ false none 0 [(.mk 1 ⟨#[]⟩ 1 none 0 [] 0)] none 0 [] none 0 [] 0), (.mk 4 ⟨#[]⟩ ⟨#[]⟩ false none 0 [] none 0 [] none 0 [] 0), (.mk 5 ⟨#[]⟩ ⟨#[]⟩ false none 0 [(.mk 1 ⟨#[]⟩ 1 none 0 [] 0)] none 0 [] none 0 [(.mk 7 ⟨#[]⟩ ⟨#[]⟩ false none 0 [(.mk 1 ⟨#[]⟩ 1 none 0 [] 0)] none 0 [] none 0 [] 0)] 0), (.mk 6 ⟨#[]⟩ ⟨#[]⟩ false none 0 [] none 0 [] none 0 [] 0), (.mk 7 ⟨#[97]⟩ ⟨#[]⟩ false none 0 [(.mk 1 ⟨#[]⟩ 1 none 0 [] 0)] none 0 [] none 0 [] 0), (.mk 8 ⟨#[102]⟩ ⟨#[]⟩ true none 0 [] none 0 [] none 0 [] 0), (.mk 8 ⟨#[102]⟩ ⟨#[105, 102]⟩ false none 0 [] none 0 [] none 0 [] 0), (.mk 8 ⟨#[102]⟩ ⟨#[]⟩ false none 0 [(.mk 0 ⟨#[]⟩ 0 none 0 [] 0), (.mk 0 ⟨#[]⟩ 0 none 0 [] 0), (.mk 0 ⟨#[]⟩ 0 none 0 [] 0), (.mk 0 ⟨#[]⟩ 0 none 0 [] 0), (.mk 0 ⟨#[]⟩ 0 none 0 [] 0), (.mk 0 ⟨#[]⟩ 0 none 0 [] 0), (.mk 0 ⟨#[]⟩ 0 none 0 [] 0), (.mk 0 ⟨#[]⟩ 0 none 0 [] 0), (.mk 0 ⟨#[]⟩ 0 none 0 [] 0)] none 0 [] none 0 [] 0), (.mk 9 ⟨#[]⟩ ⟨#[]⟩ false none 0 [] none 0 [] none 0 [] 0), (.mk 2 ⟨#[97]⟩ ⟨#[98]⟩ false none 0 [(.mk 1 ⟨#[]⟩ 1 none 0 [] 0)] none 0 [] none 0 [] 0)] v0 w := hR0
                    obtain ⟨l0, a0, c0, rfl, r0, i0, q0⟩ := hR0
                    have hlen : l0.length = 13 := by have h := congrArg List.length q0; simpa [St.erL_len] using h
                    exact ⟨wanted_none rfl, _, run_len rfl (ev hv0) ln_sts, by rw [hlen]; rfl⟩
                  refine stepsL_cons (s_val fun a w hC hs => ?_) ?_
                  · skip
                    exact ⟨wanted_none rfl, _, run_mv (Or.inl rfl) (ev_const _), rfl⟩
                  exact stepsL_nil
                case hend =>
                  intro σ V hC hR
                  generalize hF : fillL _ _ _ _ _ = F
                  simp [fillL, dstOf, List.range, List.range.loop, Act.put] at hF
                  subst hF
                  obtain ⟨l6, a6, c6, hv6, hrow6, hin6, her6⟩ := hR 28 (by simp)
                  have h29 : σ 29 = .int .i64 13 := hR 29 (by simp)
                  have h30 : σ 30 = .int .i64 0 := hR 30 (by simp)
                  have hl6 : l6.length = 13 := by have h := congrArg List.length her6; rw [St.erL_len] at h; exact h
                  rw [hv6, h29, h30, hl6]
                  have y0 := below_in hC x0
                  have y1 := below_in hC x1
                  have y2 := below_in hC x2
                  have y3 := below_in hC x3
                  have y4 := below_in hC x4
                  have htV := ht4.below hC
                  have hbV : Hid (Below w.heap.size w V) := Lib.hid (hb4.out.trans (hC.mono hb4.out.size))
                  clear x0 x1 x2 x3 x4 ht4 hb4 hC hR hv6 h29 h30
                  replace hrow6 := Lib.hid hrow6
                  replace hin6 := Lib.hid hin6
                  replace her6 := Lib.hid her6
                  replace hl6 := Lib.hid hl6
                  generalize σ 0 = s0
                  generalize σ 1 = s1
                  generalize σ 2 = s2
                  generalize σ 3 = s3
                  generalize σ 4 = s4
                  generalize σ 5 = s5
                  generalize σ 6 = s6
                  generalize σ 7 = s7
                  generalize σ 8 = s8
                  generalize σ 9 = s9
                  generalize σ 10 = s10
                  generalize σ 11 = s11
                  generalize σ 12 = s12
                  generalize σ 13 = s13
                  generalize σ 14 = s14
                  generalize σ 15 = s15
                  generalize σ 16 = s16
                  generalize σ 17 = s17
                  generalize σ 18 = s18
                  generalize σ 19 = s19
                  generalize σ 20 = s20
                  generalize σ 21 = s21
                  generalize σ 22 = s22
                  generalize σ 23 = s23
                  generalize σ 24 = s24
                  generalize σ 25 = s25
                  generalize σ 26 = s26
                  generalize σ 27 = s27
                  clear σ
                  go_wp2_with fail
                  go_loopw [94] (fun i wq => ∃ k : Nat, k ≤ 13 ∧ i = .int .i64 k ∧ Below V.heap.size V wq) (fun i _ => 13 - (intOf i).toNat)
                  case atStart => exact ⟨0, by omega, rfl, Below.refl _ _⟩
                  case round =>
                    obtain ⟨k, hk, rfl, hbr⟩ := hrel
                    by_cases hlt : k < 13
                    · obtain ⟨e, he⟩ : ∃ e, l6[k]? = some e := ⟨l6[k]'(by rw [hl6.out]; exact hlt), by simp⟩
                      obtain ⟨b6, o6, rfl, _, hcl⟩ := st_row hrow6.out k e he
                      have hie := St.In.below (Kps.of_below hbr) _ (hin6.out.get he)
                      have hmy : okS e.er = false ∧ e.sz ≤ 4194304 := by
                        have h1 : e.er ∈ St.erL l6 := by rw [St.erL_map]; exact List.mem_map_of_mem (List.mem_of_getElem? he)
                        rw [her6.out] at h1
                        have h2 := xs13_no _ h1
                        exact ⟨h2.1, by rw [← St.er_sz]; exact h2.2⟩
                      have htb := htV.below hbr
                      have cE := fun U (h : Below wr.heap.size wr U) => (ok_any e U (St.In.below (Kps.of_below h) _ hie) hmy.2 (htb.below h)).mono fun x w' h2 => (⟨by rw [h2.1, hmy.1], h.trans (h2.2.mono h.size)⟩ : x = .returned (.bool false) ∧ Below wr.heap.size wr w')
                      replace cE := Lib.hid cE
                      obtain ⟨ek, en, et, ew, ea, ec, el, ba, bc, bl, la, lc, ll, ep⟩ := e
                      have z0 := below_in hbr (hcl 0 _ rfl)
                      have z1 := below_in hbr (hcl 1 _ rfl)
                      have z2 := below_in hbr (hcl 2 _ rfl)
                      have z3 := below_in hbr (hcl 3 _ rfl)
                      have z4 := below_in hbr (hcl 4 _ rfl)
                      have z5 := below_in hbr (hcl 5 _ rfl)
                      have z6 := below_in hbr (hcl 6 _ rfl)
                      have z7 := below_in hbr (hcl 7 _ rfl)
                      simp only [← Nat.add_assoc] at z0 z1 z2 z3 z4 z5 z6 z7
                      simp only [Nat.add_zero] at z0
                      replace hbr := Lib.hid hbr
                      clear hcl he hie hmy htb
                      go_wp2_with fail
                      refine (cE.out _ (Ext.al _ _)).mono ?_
                      rintro x w' ⟨rfl, hbw⟩
                      have hbw' := hbr.out.trans (hbw.mono hbr.out.size)
                      clear z0 z1 z2 z3 z4 z5 z6 z7 cE hbw
                      go_wp2_with fail
                      go_roundw
                      case rel => exact ⟨k + 1, by omega, by go_num, hbw'⟩
                      case measure => simp [intOf]; omega
                    · obtain rfl : k = 13 := by omega
                      clear hk hlt
                      have x0 := below_in hbr y0
                      have x1 := below_in hbr y1
                      have x2 := below_in hbr y2
                      have x3 := below_in hbr y3
                      have x4 := below_in hbr y4
                      have ht4 := htV.below hbr
                      have hb4 : Hid (Below w.heap.size w wr) := Lib.hid (hbV.out.trans (hbr.mono hbV.out.size))
                      have hpl : p < wr.heap.size := World.block_lt_of_cell? _ _ x0
                      clear y0 y1 y2 y3 y4 htV hbV hbr hrow6 hin6 her6 hl6
                      go_wp2_with fail
                      obtain ⟨w4, hw4⟩ : ∃ W, W = wr := ⟨_, rfl⟩
                      rw [← hw4] at x0 x1 x2 x3 x4 ht4 hb4 hpl ⊢
                      clear hw4
                      obtain ⟨w5, hw5⟩ : ∃ W, w4.alloc (.cells #[.int .u8 1, .string ⟨#[]⟩, .int .i64 1, .slice none 0 0, .int .i64 0] 25) = W := ⟨_, rfl⟩
                      have hE5 : Ext w4 w5 := by rw [← hw5]; exact Ext.al _ _
                      have hs5 : w5.heap.size = w4.heap.size + 1 := by rw [← hw5]; simp
                      have v0 : VarE w4.heap.size eOne0 w5 := by rw [← hw5]; exact varE_new _
                      rw [hw5]
                      clear hw5
                      obtain ⟨bd, hbd⟩ : ∃ n, w4.heap.size = n := ⟨_, rfl⟩
                      rw [hbd] at v0 hpl ⊢
                      clear hs5
                      have hs5 := Lib.hid hbd
                      clear hbd
                      go_loopw [12] (fun i wq => ∃ k : Nat, k ≤ 58 ∧ i = .int .i64 k ∧ VarE bd (negs k) wq ∧ Ext w4 wq) (fun i _ => 58 - (intOf i).toNat)
                      case atStart => exact ⟨0, by omega, rfl, v0, hE5⟩
                      case round =>
                        obtain ⟨k, hk, rfl, hv, hE⟩ := hrel
                        by_cases hlt : k < 58
                        · obtain ⟨⟨ek, en, em, ea, ec, el, ep⟩, hbk, hie, her⟩ := hv
                          have c0 : wr.cell? ⟨bd, 0, none⟩ = some (.int .u8 ek) := blk_cell hbk rfl
                          have c1 : wr.cell? ⟨bd, 1, none⟩ = some (.string en) := blk_cell hbk rfl
                          have c2 : wr.cell? ⟨bd, 2, none⟩ = some (.int .i64 em) := blk_cell hbk rfl
                          have c3 : wr.cell? ⟨bd, 3, none⟩ = some (.slice ea el.length ec) := blk_cell hbk rfl
                          have c4 : wr.cell? ⟨bd, 4, none⟩ = some (.int .i64 ep) := blk_cell hbk rfl
                          have f0 := blk_free hbk 0
                          have f1 := blk_free hbk 1
                          have f2 := blk_free hbk 2
                          have f3 := blk_free hbk 3
                          have f4 := blk_free hbk 4
                          have hbl : bd < wr.heap.size := World.block_lt_of_cell? _ _ c0
                          replace hbk := Lib.hid hbk
                          replace hE := Lib.hid hE
                          replace hie := Lib.hid hie
                          replace her := Lib.hid her
                          go_wp2_with fail
                          go_roundw
                          case rel =>
                            have hfin := varE_neg hbk.out hie.out her.out hE.out hs5.out
                            exact ⟨k + 1, by omega, by go_num, hfin.1, hfin.2⟩
                          case measure => simp [intOf]; omega
                        · obtain rfl : k = 58 := by omega
                          clear hk hlt
                          have x0' := below_in hE x0
                          have x1' := below_in hE x1
                          have x2' := below_in hE x2
                          have x3' := below_in hE x3
                          have x4' := below_in hE x4
                          have htw := ht4.below hE
                          have hvar := hv
                          have hbw : Hid (Below w.heap.size w wr) := Lib.hid (hb4.out.trans (hE.mono hb4.out.size))
                          clear x0 x1 x2 x3 x4 ht4 hb4 hE hv v0 hE5
                          obtain ⟨wa, hwa⟩ : ∃ W, W = wr := ⟨_, rfl⟩
                          go_upto_region 31 with fail
                          refine wp_region_rel_text (C := fun V => Ext wr V) (E := Ext) (R := fun i => r31.getD i VT) (Below.refl _ _) (by kernel_rfl) (fun i v w w' _ hE h => mono_get r31 i r31_mono v w w' hE h) (steps_all ?hs) ?hend
                          case hs =>
                            refine stepsL_cons (s_val fun a w hC hs => ?_) ?_
                            · skip
                              have ho := old_of hs 8 (by kernel_rfl) (by rfl)
                              exact ⟨wanted_none rfl, _, run_mv (Or.inl rfl) (ev ho), rfl⟩
                            refine stepsL_cons (s_val fun a w hC hs => ?_) ?_
                            · have ho := old_of hs 11 (by kernel_rfl) (by rfl)
                              obtain ⟨vv, hrr, hvv⟩ := var_ex hvar hC
                              exact ⟨wanted_none rfl, _, run_ld rfl (ev ho) (hrr), hvv⟩
                            refine stepsL_cons (s_new fun a w hC hs => ?_) ?_
                            · skip
                              obtain ⟨v0, hv0, hR0⟩ := got_of hs 1 111 (by kernel_rfl) (by rfl)
                              replace hR0 : VE (fun _ => True) (negs 58) v0 w := hR0
                              obtain ⟨⟨k0, n0, m0, a0, c0, l0, p0⟩, rfl, i0, q0⟩ := hR0
                              exact ⟨wanted_none rfl, _, w.alloc (.cells ⟨exCells [(Ex.mk k0 n0 m0 a0 c0 l0 p0)]⟩ 25), run_bs (qs := #[(0, .agg #[.int .u8 k0, .string n0, .int .i64 m0, .slice a0 l0.length c0, .int .i64 p0])]) rfl (by simp [ev hv0, Ex.vals]) (by kernel_rfl), hC.trans ((Ext.al w _).mono hC.size), Ext.al w _, (show Ex.erL [(Ex.mk k0 n0 m0 a0 c0 l0 p0)] = ([(negs 58)] : List Ex) from (by rw [Ex.erL_cons, Ex.erL_nil, q0])) ▸ exs_new (T := 25) [(Ex.mk k0 n0 m0 a0 c0 l0 p0)] (by simp) (inL_cons i0 (inL_nil)) trivial⟩
                            refine stepsL_cons (s_val fun a w hC hs => ?_) ?_
                            · skip
                              obtain ⟨v4, hv4, hR4⟩ := got_of hs 2 112 (by kernel_rfl) (by rfl)
                              replace hR4 : VEs (fun _ => True) [(negs 58)] v4 w := hR4
                              obtain ⟨l4, a4, c4, rfl, r4, i4, q4⟩ := hR4
                              exact ⟨wanted_none rfl, _, run_b (qs := #[(0, .int .u8 7), (4, .slice a4 l4.length c4)]) rfl (by simp [ev_const, ev hv4]) (by kernel_rfl), mk_st (by unfold U8; omega) (by unfold maxLen; decide) (by unfold maxLen; decide) ⟨l4, a4, c4, rfl, r4, i4, q4⟩ sts_nil sts_nil⟩
                            refine stepsL_cons (s_call fun a w hC hs => ?_) ?_
                            · skip
                              obtain ⟨v0, hv0, hR0⟩ := got_of hs 0 110 (by kernel_rfl) (by rfl)
                              replace hR0 : VK (.func (.func 25) #[] #[]) v0 w := hR0
                              obtain ⟨v1, hv1, hR1⟩ := got_of hs 3 113 (by kernel_rfl) (by rfl)
                              replace hR1 : VS (fun _ => True) (.mk 7 ⟨#[]⟩ ⟨#[]⟩ false none 0 [(negs 58)] none 0 [] none 0 [] 0) v1 w := hR1
                              subst hR0
                              exact ⟨wanted_none rfl, _, _, run_callv rfl (ev hv0) (ev hv1) en_ok, (call_ok hR1 (of_decide_eq_true (by kernel_rfl)) (by kernel_rfl : _ = true) (htw.below hC)).mono fun e w' h => ⟨_, h.1, hC.trans (h.2.mono hC.size), h.2, rfl⟩⟩
                            refine stepsL_cons (s_val fun a w hC hs => ?_) ?_
                            · skip
                              obtain ⟨v0, hv0, hR0⟩ := got_of hs 4 114 (by kernel_rfl) (by rfl)
                              replace hR0 : VK (.bool true) v0 w := hR0
                              exact ⟨wanted_none rfl, _, run_mv (Or.inr rfl) (ev hv0), hR0⟩
                            exact stepsL_nil
                          case hend =>
                            intro σ V31 hC hR
                            generalize hF : fillL _ _ _ _ _ = F
                            simp [fillL, dstOf, List.range, List.range.loop, Act.put] at hF
                            subst hF
                            have h4 : σ 4 = (.bool true) := hR 4 (by simp)
                            have h5 : σ 5 = (.bool true) := hR 5 (by simp)
                            rw [h4, h5]
                            clear hR h4 h5
                            generalize σ 0 = z31_0
                            generalize σ 1 = z31_1
                            generalize σ 2 = z31_2
                            generalize σ 3 = z31_3
                            clear σ
                            have hvar2 : VarE bd (negs 58) V31 := hvar.ext hC
                            have y0 := below_in hC x0'
                            have y1 := below_in hC x1'
                            have y2 := below_in hC x2'
                            have y3 := below_in hC x3'
                            have y4 := below_in hC x4'
                            have htw2 := htw.below hC
                            have hbw2 : Hid (Below w.heap.size w V31) := Lib.hid (hbw.out.trans (hC.mono hbw.out.size))
                            clear x0' x1' x2' x3' x4' htw hbw hC hvar
                            go_upto_region 32 with fail
                            refine wp_region_rel_text (C := fun V => Ext V31 V) (E := Ext) (R := fun i => r32.getD i VT) (Below.refl _ _) (by kernel_rfl) (fun i v w w' _ hE h => mono_get r32 i r32_mono v w w' hE h) (steps_all ?hs) ?hend
                            case hs =>
                              refine stepsL_cons (s_val fun a w hC hs => ?_) ?_
                              · skip
                                have ho := old_of hs 8 (by kernel_rfl) (by rfl)
                                exact ⟨wanted_none rfl, _, run_mv (Or.inl rfl) (ev ho), rfl⟩
                              refine stepsL_cons (s_val fun a w hC hs => ?_) ?_
                              · have ho := old_of hs 11 (by kernel_rfl) (by rfl)
                                obtain ⟨vv, hrr, hvv⟩ := var_ex hvar2 hC
                                exact ⟨wanted_none rfl, _, run_ld rfl (ev ho) (hrr), hvv⟩
                              refine stepsL_cons (s_new fun a w hC hs => ?_) ?_
                              · skip
                                obtain ⟨v0, hv0, hR0⟩ := got_of hs 1 116 (by kernel_rfl) (by rfl)
                                replace hR0 : VE (fun _ => True) (negs 58) v0 w := hR0
                                obtain ⟨⟨k0, n0, m0, a0, c0, l0, p0⟩, rfl, i0, q0⟩ := hR0
                                exact ⟨wanted_none rfl, _, w.alloc (.cells ⟨exCells [(Ex.mk k0 n0 m0 a0 c0 l0 p0)]⟩ 25), run_bs (qs := #[(0, .agg #[.int .u8 k0, .string n0, .int .i64 m0, .slice a0 l0.length c0, .int .i64 p0])]) rfl (by simp [ev hv0, Ex.vals]) (by kernel_rfl), hC.trans ((Ext.al w _).mono hC.size), Ext.al w _, (show Ex.erL [(Ex.mk k0 n0 m0 a0 c0 l0 p0)] = ([(negs 58)] : List Ex) from (by rw [Ex.erL_cons, Ex.erL_nil, q0])) ▸ exs_new (T := 25) [(Ex.mk k0 n0 m0 a0 c0 l0 p0)] (by simp) (inL_cons i0 (inL_nil)) trivial⟩
                              refine stepsL_cons (s_val fun a w hC hs => ?_) ?_
                              · skip
                                obtain ⟨v3, hv3, hR3⟩ := got_of hs 2 117 (by kernel_rfl) (by rfl)
                                replace hR3 : VEs (fun _ => True) [(negs 58)] v3 w := hR3
                                obtain ⟨l3, a3, c3, rfl, r3, i3, q3⟩ := hR3
                                exact ⟨wanted_none rfl, _, run_b (qs := #[(0, .int .u8 5), (3, .slice a3 l3.length c3)]) rfl (by simp [ev_const, ev hv3]) (by kernel_rfl), mk_ex (by unfold U8; omega) (by unfold maxLen; decide) (by unfold I64; omega) ⟨l3, a3, c3, rfl, r3, i3, q3⟩⟩
                              refine stepsL_cons (s_new fun a w hC hs => ?_) ?_
                              · skip
                                obtain ⟨v0, hv0, hR0⟩ := got_of hs 3 118 (by kernel_rfl) (by rfl)
                                replace hR0 : VE (fun _ => True) (.mk 5 ⟨#[]⟩ 0 none 0 [(negs 58)] 0) v0 w := hR0
                                obtain ⟨⟨k0, n0, m0, a0, c0, l0, p0⟩, rfl, i0, q0⟩ := hR0
                                exact ⟨wanted_none rfl, _, w.alloc (.cells ⟨exCells [(Ex.mk k0 n0 m0 a0 c0 l0 p0)]⟩ 25), run_bs (qs := #[(0, .agg #[.int .u8 k0, .string n0, .int .i64 m0, .slice a0 l0.length c0, .int .i64 p0])]) rfl (by simp [ev hv0, Ex.vals]) (by kernel_rfl), hC.trans ((Ext.al w _).mono hC.size), Ext.al w _, (show Ex.erL [(Ex.mk k0 n0 m0 a0 c0 l0 p0)] = ([(.mk 5 ⟨#[]⟩ 0 none 0 [(negs 58)] 0)] : List Ex) from (by rw [Ex.erL_cons, Ex.erL_nil, q0])) ▸ exs_new (T := 25) [(Ex.mk k0 n0 m0 a0 c0 l0 p0)] (by simp) (inL_cons i0 (inL_nil)) trivial⟩
                              refine stepsL_cons (s_val fun a w hC hs => ?_) ?_
                              · skip
                                obtain ⟨v4, hv4, hR4⟩ := got_of hs 4 119 (by kernel_rfl) (by rfl)
                                replace hR4 : VEs (fun _ => True) [(.mk 5 ⟨#[]⟩ 0 none 0 [(negs 58)] 0)] v4 w := hR4
                                obtain ⟨l4, a4, c4, rfl, r4, i4, q4⟩ := hR4
                                exact ⟨wanted_none rfl, _, run_b (qs := #[(0, .int .u8 7), (4, .slice a4 l4.length c4)]) rfl (by simp [ev_const, ev hv4]) (by kernel_rfl), mk_st (by unfold U8; omega) (by unfold maxLen; decide) (by unfold maxLen; decide) ⟨l4, a4, c4, rfl, r4, i4, q4⟩ sts_nil sts_nil⟩
                              refine stepsL_cons (s_call fun a w hC hs => ?_) ?_
                              · skip
                                obtain ⟨v0, hv0, hR0⟩ := got_of hs 0 115 (by kernel_rfl) (by rfl)
                                replace hR0 : VK (.func (.func 25) #[] #[]) v0 w := hR0
                                obtain ⟨v1, hv1, hR1⟩ := got_of hs 5 120 (by kernel_rfl) (by rfl)
                                replace hR1 : VS (fun _ => True) (.mk 7 ⟨#[]⟩ ⟨#[]⟩ false none 0 [(.mk 5 ⟨#[]⟩ 0 none 0 [(negs 58)] 0)] none 0 [] none 0 [] 0) v1 w := hR1
                                subst hR0
                                exact ⟨wanted_none rfl, _, _, run_callv rfl (ev hv0) (ev hv1) en_ok, (call_ok hR1 (of_decide_eq_true (by kernel_rfl)) (by kernel_rfl : _ = false) (htw2.below hC)).mono fun e w' h => ⟨_, h.1, hC.trans (h.2.mono hC.size), h.2, rfl⟩⟩
                              refine stepsL_cons (s_val fun a w hC hs => ?_) ?_
                              · skip
                                obtain ⟨v0, hv0, hR0⟩ := got_of hs 6 121 (by kernel_rfl) (by rfl)
                                replace hR0 : VK (.bool false) v0 w := hR0
                                exact ⟨wanted_none rfl, _, run_mv (Or.inr rfl) (ev hv0), hR0⟩
                              exact stepsL_nil
                            case hend =>
                              intro σ V32 hC hR
                              generalize hF : fillL _ _ _ _ _ = F
                              simp [fillL, dstOf, List.range, List.range.loop, Act.put] at hF
                              subst hF
                              have h6 : σ 6 = (.bool false) := hR 6 (by simp)
                              have h7 : σ 7 = (.bool false) := hR 7 (by simp)
                              rw [h6, h7]
                              clear hR h6 h7
                              generalize σ 0 = z32_0
                              generalize σ 1 = z32_1
                              generalize σ 2 = z32_2
                              generalize σ 3 = z32_3
                              generalize σ 4 = z32_4
                              generalize σ 5 = z32_5
                              clear σ
                              have x0 := below_in hC y0
                              have x1 := below_in hC y1
                              have x2 := below_in hC y2
                              have x3 := below_in hC y3
                              have x4 := below_in hC y4
                              have htw3 := htw2.below hC
                              have hbw3 : Hid (Below w.heap.size w V32) := Lib.hid (hbw2.out.trans (hC.mono hbw2.out.size))
                              clear y0 y1 y2 y3 y4 htw2 hbw2 hC hvar2
                              go_upto_region 33 with fail
                              refine wp_region_rel_text (C := fun V => Ext V32 V) (E := Ext) (R := fun i => (r33 V32.heap.size).getD i VT) (Below.refl _ _) (by kernel_rfl) (fun i v w w' _ hE h => mono_get _ i (r33_mono _) v w w' hE h) (steps_all ?hs) ?hend
                              case hs =>
                                refine stepsL_cons (s_new fun a w hC hs => ?_) ?_
                                · obtain ⟨cur, hr, hsz⟩ := make_many w
                                  exact ⟨wanted_none rfl, _, _, run_ms rfl (ev_const _) (ev_const _) hr, hC.trans ((Ext.al w _).mono hC.size), Ext.al w _, ⟨w.heap.size, rfl, hC.size, cur, World.alloc_heap_new w _, hsz⟩⟩
                                refine stepsL_cons (s_val fun a w hC hs => ?_) ?_
                                · obtain ⟨v0, hv0, hR0⟩ := got_of hs 0 122 (by kernel_rfl) (by rfl)
                                  exact ⟨wanted_none rfl, _, run_mv (Or.inr rfl) (ev hv0), hR0⟩
                                exact stepsL_nil
                              case hend =>
                                intro σ V33 hC hR
                                generalize hF : fillL _ _ _ _ _ = F
                                simp [fillL, dstOf, List.range, List.range.loop, Act.put] at hF
                                subst hF
                                obtain ⟨g, hg1, hg2, cur, hg3, hg4⟩ : VMany V32.heap.size (σ 1) V33 := hR 1 (by simp)
                                rw [hg1]
                                clear hR hg1
                                generalize σ 0 = z33_0
                                clear σ
                                have hM0 : Many g 0 V33 := ⟨cur, hg3, hg4, fun i j hi _ => absurd hi (Nat.not_lt_zero _)⟩
                                clear hg3 hg4 cur
                                replace hC := Lib.hid hC
                                replace hg2 := Lib.hid hg2
                                go_wp2_with fail
                                go_loopw [125] (fun i wq => ∃ k : Nat, k ≤ 256 ∧ i = .int .i64 k ∧ Many g k wq ∧ Ext V32 wq) (fun i _ => 256 - (intOf i).toNat)
                                case atStart => exact ⟨0, by omega, rfl, hM0, hC.out⟩
                                case round =>
                                  obtain ⟨k, hk, rfl, hM, hE⟩ := hrel
                                  by_cases hlt : k < 256
                                  · obtain ⟨u0, m0, n0⟩ := hM.cell (k * 6) (by omega)
                                    obtain ⟨u1, m1, n1⟩ := hM.cell (k * 6 + 1) (by omega)
                                    obtain ⟨u2, m2, n2⟩ := hM.cell (k * 6 + 2) (by omega)
                                    obtain ⟨u3, m3, n3⟩ := hM.cell (k * 6 + 3) (by omega)
                                    obtain ⟨u4, m4, n4⟩ := hM.cell (k * 6 + 4) (by omega)
                                    obtain ⟨u5, m5, n5⟩ := hM.cell (k * 6 + 5) (by omega)
                                    have hM' := Lib.hid (many_step hM hlt)
                                    have hEg : Hid (∀ (W : World) (j : Nat) (v : Value), Below V32.heap.size V32 W → Below V32.heap.size V32 (W.setCell ⟨g, j, none⟩ v)) := Lib.hid fun W j v h => h.setCell hg2.out v
                                    replace hE := Lib.hid hE
                                    clear hM hM0 hC
                                    go_wp2_with fail
                                    go_roundw
                                    case rel => exact ⟨k + 1, by omega, by go_num, hM'.out, hEg.out _ _ _ (hEg.out _ _ _ (hEg.out _ _ _ (hEg.out _ _ _ (hEg.out _ _ _ (hEg.out _ _ _ hE.out)))))⟩
                                    case measure => simp [intOf]; omega
                                  · obtain rfl : k = 256 := by omega
                                    clear hk hlt hM0
                                    have hrow := many_row hM
                                    have htw4 := htw3.below hE
                                    have y0 := below_in hE x0
                                    have y1 := below_in hE x1
                                    have y2 := below_in hE x2
                                    have y3 := below_in hE x3
                                    have y4 := below_in hE x4
                                    have hbw4 : Hid (Below w.heap.size w wr) := Lib.hid (hbw3.out.trans (hE.mono hbw3.out.size))
                                    clear x0 x1 x2 x3 x4 htw3 hbw3 hE hM hC hg2
                                    go_upto_region 39 with fail
                                    refine wp_region_rel_text (C := fun V => Ext wr V) (E := Ext) (R := fun i => (r39 g).getD i VT) (Below.refl _ _) (by kernel_rfl) (fun i v w w' _ hE h => mono_get _ i (r39_mono g) v w w' hE h) (steps_all ?hs) ?hend
                                    case hs =>
                                      refine stepsL_cons (s_val fun a w hC hs => ?_) ?_
                                      · skip
                                        have ho := old_of hs 2 (by kernel_rfl) (by rfl)
                                        exact ⟨wanted_none rfl, _, run_mv (Or.inl rfl) (ev ho), rfl⟩
                                      refine stepsL_cons (s_call fun a w hC hs => ?_) ?_
                                      · skip
                                        obtain ⟨v0, hv0, hR0⟩ := got_of hs 0 133 (by kernel_rfl) (by rfl)
                                        replace hR0 : VK (.string (nmz 31)) v0 w := hR0
                                        subst hR0
                                        exact ⟨wanted_none rfl, _, _, run_call1 rfl (ev hv0) en_tree_Name, (tname_any (nmz 31) w (by rw [nmz_size]; unfold maxLen; omega) (htw4.below hC).sg).mono fun e w' h => ⟨.bool true, by rw [h.1, nme31], hC.trans (h.2.mono hC.size), h.2, rfl⟩⟩
                                      refine stepsL_cons (s_val fun a w hC hs => ?_) ?_
                                      · skip
                                        obtain ⟨v0, hv0, hR0⟩ := got_of hs 1 134 (by kernel_rfl) (by rfl)
                                        replace hR0 : VK (.bool true) v0 w := hR0
                                        exact ⟨wanted_none rfl, _, run_mv (Or.inl rfl) (ev hv0), hR0⟩
                                      refine stepsL_cons (s_val fun a w hC hs => ?_) ?_
                                      · skip
                                        obtain ⟨vg, hvg, hRg⟩ := got_of hs 2 135 (by kernel_rfl) (by rfl)
                                        replace hRg : vg = .bool true := hRg
                                        subst hRg
                                        have ho := old_of hs 13 (by kernel_rfl) (by rfl)
                                        exact ⟨wanted_true (j := 2) (d := 135) (by rfl) (by rfl) hvg, _, run_mv (Or.inl rfl) (ev ho), rfl⟩
                                      refine stepsL_cons (s_val fun a w hC hs => ?_) ?_
                                      · skip
                                        obtain ⟨v0, hv0, hR0⟩ := got_of hs 2 135 (by kernel_rfl) (by rfl)
                                        replace hR0 : VK (.bool true) v0 w := hR0
                                        obtain ⟨v1, hv1, hR1⟩ := got_of hs 3 136 (by kernel_rfl) (by rfl)
                                        replace hR1 : VK (.bool true) v1 w := hR1
                                        subst hR0 hR1
                                        exact ⟨wanted_none rfl, _, run_pk rfl (ev hv0) (by rw [if_pos rfl]; exact ev hv1), rfl⟩
                                      refine stepsL_cons (s_val fun a w hC hs => ?_) ?_
                                      · skip
                                        obtain ⟨v0, hv0, hR0⟩ := got_of hs 4 137 (by kernel_rfl) (by rfl)
                                        replace hR0 : VK (.bool true) v0 w := hR0
                                        exact ⟨wanted_none rfl, _, run_mv (Or.inl rfl) (ev hv0), hR0⟩
                                      refine stepsL_cons (s_val fun a w hC hs => ?_) ?_
                                      · skip
                                        obtain ⟨vg, hvg, hRg⟩ := got_of hs 5 138 (by kernel_rfl) (by rfl)
                                        replace hRg : vg = .bool true := hRg
                                        subst hRg
                                        have ho := old_of hs 14 (by kernel_rfl) (by rfl)
                                        exact ⟨wanted_true (j := 5) (d := 138) (by rfl) (by rfl) hvg, _, run_mv (Or.inl rfl) (ev ho), rfl⟩
                                      refine stepsL_cons (s_val fun a w hC hs => ?_) ?_
                                      · skip
                                        obtain ⟨vg, hvg, hRg⟩ := got_of hs 5 138 (by kernel_rfl) (by rfl)
                                        replace hRg : vg = .bool true := hRg
                                        subst hRg
                                        obtain ⟨v0, hv0, hR0⟩ := got_of hs 6 139 (by kernel_rfl) (by rfl)
                                        replace hR0 : VK (.bool false) v0 w := hR0
                                        subst hR0
                                        exact ⟨wanted_true (j := 5) (d := 138) (by rfl) (by rfl) hvg, _, run_un rfl (ev hv0) not_run, rfl⟩
                                      refine stepsL_cons (s_val fun a w hC hs => ?_) ?_
                                      · skip
                                        obtain ⟨v0, hv0, hR0⟩ := got_of hs 5 138 (by kernel_rfl) (by rfl)
                                        replace hR0 : VK (.bool true) v0 w := hR0
                                        obtain ⟨v1, hv1, hR1⟩ := got_of hs 7 140 (by kernel_rfl) (by rfl)
                                        replace hR1 : VK (.bool true) v1 w := hR1
                                        subst hR0 hR1
                                        exact ⟨wanted_none rfl, _, run_pk rfl (ev hv0) (by rw [if_pos rfl]; exact ev hv1), rfl⟩
                                      refine stepsL_cons (s_val fun a w hC hs => ?_) ?_
                                      · skip
                                        obtain ⟨v0, hv0, hR0⟩ := got_of hs 8 141 (by kernel_rfl) (by rfl)
                                        replace hR0 : VK (.bool true) v0 w := hR0
                                        exact ⟨wanted_none rfl, _, run_mv (Or.inl rfl) (ev hv0), hR0⟩
                                      refine stepsL_cons (s_val fun a w hC hs => ?_) ?_
                                      · skip
                                        obtain ⟨vg, hvg, hRg⟩ := got_of hs 9 142 (by kernel_rfl) (by rfl)
                                        replace hRg : vg = .bool true := hRg
                                        subst hRg
                                        have ho := old_of hs 15 (by kernel_rfl) (by rfl)
                                        exact ⟨wanted_true (j := 9) (d := 142) (by rfl) (by rfl) hvg, _, run_mv (Or.inl rfl) (ev ho), rfl⟩
                                      refine stepsL_cons (s_call fun a w hC hs => ?_) ?_
                                      · skip
                                        obtain ⟨vg, hvg, hRg⟩ := got_of hs 9 142 (by kernel_rfl) (by rfl)
                                        replace hRg : vg = .bool true := hRg
                                        subst hRg
                                        obtain ⟨v0, hv0, hR0⟩ := got_of hs 10 143 (by kernel_rfl) (by rfl)
                                        replace hR0 : VK (.slice (some ⟨g, 0, none⟩) 256 256) v0 w := hR0
                                        subst hR0
                                        exact ⟨wanted_true (j := 9) (d := 142) (by rfl) (by rfl) hvg, _, _, run_call1 rfl (ev hv0) en_tree_May, (call_may (⟨_, _, _, rfl, (hrow.1.below (Kps.of_below hC)), (De.InL.below (Kps.of_below hC) hrow.2), erl256⟩ : VDs (fun _ => True) (List.replicate 256 lkDe) _ w) (of_decide_eq_true (by kernel_rfl)) (may256 : _ = true) (htw4.below hC)).mono fun e w' h => ⟨_, h.1, hC.trans (h.2.mono hC.size), h.2, rfl⟩⟩
                                      refine stepsL_cons (s_val fun a w hC hs => ?_) ?_
                                      · skip
                                        obtain ⟨v0, hv0, hR0⟩ := got_of hs 9 142 (by kernel_rfl) (by rfl)
                                        replace hR0 : VK (.bool true) v0 w := hR0
                                        obtain ⟨v1, hv1, hR1⟩ := got_of hs 11 144 (by kernel_rfl) (by rfl)
                                        replace hR1 : VK (.bool true) v1 w := hR1
                                        subst hR0 hR1
                                        exact ⟨wanted_none rfl, _, run_pk rfl (ev hv0) (by rw [if_pos rfl]; exact ev hv1), rfl⟩
                                      refine stepsL_cons (s_val fun a w hC hs => ?_) ?_
                                      · skip
                                        obtain ⟨v0, hv0, hR0⟩ := got_of hs 12 145 (by kernel_rfl) (by rfl)
                                        replace hR0 : VK (.bool true) v0 w := hR0
                                        exact ⟨wanted_none rfl, _, run_mv (Or.inl rfl) (ev hv0), hR0⟩
                                      refine stepsL_cons (s_val fun a w hC hs => ?_) ?_
                                      · skip
                                        obtain ⟨vg, hvg, hRg⟩ := got_of hs 13 146 (by kernel_rfl) (by rfl)
                                        replace hRg : vg = .bool true := hRg
                                        subst hRg
                                        have ho := old_of hs 15 (by kernel_rfl) (by rfl)
                                        exact ⟨wanted_true (j := 13) (d := 146) (by rfl) (by rfl) hvg, _, run_mv (Or.inl rfl) (ev ho), rfl⟩
                                      refine stepsL_cons (s_val fun a w hC hs => ?_) ?_
                                      · skip
                                        obtain ⟨vg, hvg, hRg⟩ := got_of hs 13 146 (by kernel_rfl) (by rfl)
                                        replace hRg : vg = .bool true := hRg
                                        subst hRg
                                        have ho := old_of hs 15 (by kernel_rfl) (by rfl)
                                        exact ⟨wanted_true (j := 13) (d := 146) (by rfl) (by rfl) hvg, _, run_mv (Or.inl rfl) (ev ho), rfl⟩
                                      refine stepsL_cons (s_val fun a w hC hs => ?_) ?_
                                      · skip
                                        obtain ⟨vg, hvg, hRg⟩ := got_of hs 13 146 (by kernel_rfl) (by rfl)
                                        replace hRg : vg = .bool true := hRg
                                        subst hRg
                                        obtain ⟨v0, hv0, hR0⟩ := got_of hs 15 148 (by kernel_rfl) (by rfl)
                                        replace hR0 : VK (.slice (some ⟨g, 0, none⟩) 256 256) v0 w := hR0
                                        subst hR0
                                        exact ⟨wanted_true (j := 13) (d := 146) (by rfl) (by rfl) hvg, _, run_ix rfl (ev hv0) (ev_const _) (ix_de0 _), rfl⟩
                                      refine stepsL_cons (s_val fun a w hC hs => ?_) ?_
                                      · skip
                                        obtain ⟨vg, hvg, hRg⟩ := got_of hs 13 146 (by kernel_rfl) (by rfl)
                                        replace hRg : vg = .bool true := hRg
                                        subst hRg
                                        obtain ⟨v0, hv0, hR0⟩ := got_of hs 16 149 (by kernel_rfl) (by rfl)
                                        replace hR0 : VK (.pointer (some ⟨g, 0, none⟩)) v0 w := hR0
                                        subst hR0
                                        exact ⟨wanted_true (j := 13) (d := 146) (by rfl) (by rfl) hvg, _, run_ld rfl (ev hv0) (many_first (hrow.1.below (Kps.of_below hC))), lk_vd⟩
                                      refine stepsL_cons (s_new fun a w hC hs => ?_) ?_
                                      · skip
                                        obtain ⟨vg, hvg, hRg⟩ := got_of hs 13 146 (by kernel_rfl) (by rfl)
                                        replace hRg : vg = .bool true := hRg
                                        subst hRg
                                        obtain ⟨v0, hv0, hR0⟩ := got_of hs 17 150 (by kernel_rfl) (by rfl)
                                        replace hR0 : VD (fun _ => True) ⟨3, ⟨#[108]⟩, 0, none, 0, [], none, 0, [], 0⟩ v0 w := hR0
                                        obtain ⟨⟨k0, n0, m0, a0, c0, l0, x0, y0, z0, p0⟩, rfl, i0, q0⟩ := hR0
                                        exact ⟨wanted_true (j := 13) (d := 146) (by rfl) (by rfl) hvg, _, w.alloc (.cells ⟨deCells [(⟨k0, n0, m0, a0, c0, l0, x0, y0, z0, p0⟩ : De)]⟩ 40), run_bs (qs := #[(0, .agg #[.int .u8 k0, .string n0, .int .i64 m0, .slice a0 l0.length c0, .slice x0 z0.length y0, .int .i64 p0])]) rfl (by simp [ev hv0, De.vals]) (by kernel_rfl), hC.trans ((Ext.al w _).mono hC.size), Ext.al w _, (show De.erL [(⟨k0, n0, m0, a0, c0, l0, x0, y0, z0, p0⟩ : De)] = ([⟨3, ⟨#[108]⟩, 0, none, 0, [], none, 0, [], 0⟩] : List De) from (by simp only [De.erL, List.map_cons, List.map_nil, q0])) ▸ des_new (T := 40) [(⟨k0, n0, m0, a0, c0, l0, x0, y0, z0, p0⟩ : De)] (by simp) (idL_cons i0 (idL_nil)) trivial⟩
                                      refine stepsL_cons (s_new fun a w hC hs => ?_) ?_
                                      · skip
                                        obtain ⟨vg, hvg, hRg⟩ := got_of hs 13 146 (by kernel_rfl) (by rfl)
                                        replace hRg : vg = .bool true := hRg
                                        subst hRg
                                        obtain ⟨v0, hv0, hR0⟩ := got_of hs 14 147 (by kernel_rfl) (by rfl)
                                        replace hR0 : VK (.slice (some ⟨g, 0, none⟩) 256 256) v0 w := hR0
                                        obtain ⟨v1, hv1, hR1⟩ := got_of hs 18 151 (by kernel_rfl) (by rfl)
                                        replace hR1 : VDs (fun _ => True) [⟨3, ⟨#[108]⟩, 0, none, 0, [], none, 0, [], 0⟩] v1 w := hR1
                                        subst hR0
                                        obtain ⟨l1, a1, c1, rfl, r1, i1, q1⟩ := hR1
                                        have hl1 : l1.length = 1 := by have h := congrArg List.length q1; rw [De.erL_len] at h; exact h
                                        obtain ⟨v', w', hr, hv, hE⟩ := app_des (w := w) (l := List.replicate 256 lkDe) (m := l1) (bk := g) (off := 0) 22 (hrow.1.below (Kps.of_below hC)) (De.InL.below (Kps.of_below hC) hrow.2) r1 i1 (by omega) (by rw [hl1, List.length_replicate]; omega)
                                        have hv2 : VDs (fun _ => True) (De.erL (List.replicate 256 lkDe ++ [lkDe])) v' w' := by
                                          have e1 : De.erL (List.replicate 256 lkDe ++ l1) = De.erL (List.replicate 256 lkDe ++ [lkDe]) := by unfold De.erL at q1 ⊢; rw [List.map_append, List.map_append, q1]; rfl
                                          rw [← e1]; exact hv
                                        exact ⟨wanted_true (j := 13) (d := 146) (by rfl) (by rfl) hvg, v', w', run_app rfl (ev hv0) (ev hv1) hr, hC.trans (hE.mono hC.size), hE, hv2⟩
                                      refine stepsL_cons (s_call fun a w hC hs => ?_) ?_
                                      · skip
                                        obtain ⟨vg, hvg, hRg⟩ := got_of hs 13 146 (by kernel_rfl) (by rfl)
                                        replace hRg : vg = .bool true := hRg
                                        subst hRg
                                        obtain ⟨v0, hv0, hR0⟩ := got_of hs 19 152 (by kernel_rfl) (by rfl)
                                        replace hR0 : VDs (fun _ => True) (De.erL (List.replicate 256 lkDe ++ [lkDe])) v0 w := hR0
                                        exact ⟨wanted_true (j := 13) (d := 146) (by rfl) (by rfl) hvg, _, _, run_call1 rfl (ev hv0) en_tree_May, (call_may hR0 (of_decide_eq_true (by kernel_rfl)) (may257 : _ = false) (htw4.below hC)).mono fun e w' h => ⟨_, h.1, hC.trans (h.2.mono hC.size), h.2, rfl⟩⟩
                                      refine stepsL_cons (s_val fun a w hC hs => ?_) ?_
                                      · skip
                                        obtain ⟨vg, hvg, hRg⟩ := got_of hs 13 146 (by kernel_rfl) (by rfl)
                                        replace hRg : vg = .bool true := hRg
                                        subst hRg
                                        obtain ⟨v0, hv0, hR0⟩ := got_of hs 20 153 (by kernel_rfl) (by rfl)
                                        replace hR0 : VK (.bool false) v0 w := hR0
                                        subst hR0
                                        exact ⟨wanted_true (j := 13) (d := 146) (by rfl) (by rfl) hvg, _, run_un rfl (ev hv0) not_run, rfl⟩
                                      refine stepsL_cons (s_val fun a w hC hs => ?_) ?_
                                      · skip
                                        obtain ⟨v0, hv0, hR0⟩ := got_of hs 13 146 (by kernel_rfl) (by rfl)
                                        replace hR0 : VK (.bool true) v0 w := hR0
                                        obtain ⟨v1, hv1, hR1⟩ := got_of hs 21 154 (by kernel_rfl) (by rfl)
                                        replace hR1 : VK (.bool true) v1 w := hR1
                                        subst hR0 hR1
                                        exact ⟨wanted_none rfl, _, run_pk rfl (ev hv0) (by rw [if_pos rfl]; exact ev hv1), rfl⟩
                                      refine stepsL_cons (s_val fun a w hC hs => ?_) ?_
                                      · skip
                                        obtain ⟨v0, hv0, hR0⟩ := got_of hs 22 155 (by kernel_rfl) (by rfl)
                                        replace hR0 : VK (.bool true) v0 w := hR0
                                        exact ⟨wanted_none rfl, _, run_mv (Or.inl rfl) (ev hv0), hR0⟩
                                      refine stepsL_cons (s_call fun a w hC hs => ?_) ?_
                                      · skip
                                        obtain ⟨vg, hvg, hRg⟩ := got_of hs 23 156 (by kernel_rfl) (by rfl)
                                        replace hRg : vg = .bool true := hRg
                                        subst hRg
                                        exact ⟨wanted_true (j := 23) (d := 156) (by rfl) (by rfl) hvg, _, _, run_call1 rfl (ev_const _) en_tree_May, (call_may des_nil (of_decide_eq_true (by kernel_rfl)) ((by kernel_rfl) : _ = true) (htw4.below hC)).mono fun e w' h => ⟨_, h.1, hC.trans (h.2.mono hC.size), h.2, rfl⟩⟩
                                      refine stepsL_cons (s_val fun a w hC hs => ?_) ?_
                                      · skip
                                        obtain ⟨v0, hv0, hR0⟩ := got_of hs 23 156 (by kernel_rfl) (by rfl)
                                        replace hR0 : VK (.bool true) v0 w := hR0
                                        obtain ⟨v1, hv1, hR1⟩ := got_of hs 24 157 (by kernel_rfl) (by rfl)
                                        replace hR1 : VK (.bool true) v1 w := hR1
                                        subst hR0 hR1
                                        exact ⟨wanted_none rfl, _, run_pk rfl (ev hv0) (by rw [if_pos rfl]; exact ev hv1), rfl⟩
                                      refine stepsL_cons (s_val fun a w hC hs => ?_) ?_
                                      · skip
                                        obtain ⟨v0, hv0, hR0⟩ := got_of hs 25 158 (by kernel_rfl) (by rfl)
                                        replace hR0 : VK (.bool true) v0 w := hR0
                                        exact ⟨wanted_none rfl, _, run_mv (Or.inl rfl) (ev hv0), hR0⟩
                                      refine stepsL_cons (s_val fun a w hC hs => ?_) ?_
                                      · skip
                                        obtain ⟨vg, hvg, hRg⟩ := got_of hs 26 159 (by kernel_rfl) (by rfl)
                                        replace hRg : vg = .bool true := hRg
                                        subst hRg
                                        have ho := old_of hs 8 (by kernel_rfl) (by rfl)
                                        exact ⟨wanted_true (j := 26) (d := 159) (by rfl) (by rfl) hvg, _, run_mv (Or.inl rfl) (ev ho), rfl⟩
                                      refine stepsL_cons (s_val fun a w hC hs => ?_) ?_
                                      · have ho := old_of hs 1 (by kernel_rfl) (by rfl)
                                        obtain ⟨vg, hvg, hRg⟩ := got_of hs 26 159 (by kernel_rfl) (by rfl)
                                        replace hRg : vg = .bool true := hRg
                                        subst hRg
                                        exact ⟨wanted_true (j := 26) (d := 159) (by rfl) (by rfl) hvg, _, run_ld rfl (ev ho) (ld_ex (below_in hC y0) (below_in hC y1) (below_in hC y2) (below_in hC y3) (below_in hC y4)), mk_ex (by unfold U8; omega) (by unfold maxLen; decide) (by unfold I64; omega) exs_nil⟩
                                      refine stepsL_cons (s_new fun a w hC hs => ?_) ?_
                                      · skip
                                        obtain ⟨vg, hvg, hRg⟩ := got_of hs 26 159 (by kernel_rfl) (by rfl)
                                        replace hRg : vg = .bool true := hRg
                                        subst hRg
                                        obtain ⟨v0, hv0, hR0⟩ := got_of hs 28 161 (by kernel_rfl) (by rfl)
                                        replace hR0 : VE (fun _ => True) (.mk 1 ⟨#[]⟩ 1 none 0 [] 0) v0 w := hR0
                                        obtain ⟨⟨k0, n0, m0, a0, c0, l0, p0⟩, rfl, i0, q0⟩ := hR0
                                        exact ⟨wanted_true (j := 26) (d := 159) (by rfl) (by rfl) hvg, _, w.alloc (.cells ⟨exCells [(Ex.mk k0 n0 m0 a0 c0 l0 p0)]⟩ 25), run_bs (qs := #[(0, .agg #[.int .u8 k0, .string n0, .int .i64 m0, .slice a0 l0.length c0, .int .i64 p0])]) rfl (by simp [ev hv0, Ex.vals]) (by kernel_rfl), hC.trans ((Ext.al w _).mono hC.size), Ext.al w _, (show Ex.erL [(Ex.mk k0 n0 m0 a0 c0 l0 p0)] = ([(.mk 1 ⟨#[]⟩ 1 none 0 [] 0)] : List Ex) from (by rw [Ex.erL_cons, Ex.erL_nil, q0])) ▸ exs_new (T := 25) [(Ex.mk k0 n0 m0 a0 c0 l0 p0)] (by simp) (inL_cons i0 (inL_nil)) trivial⟩
                                      refine stepsL_cons (s_val fun a w hC hs => ?_) ?_
                                      · skip
                                        obtain ⟨vg, hvg, hRg⟩ := got_of hs 26 159 (by kernel_rfl) (by rfl)
                                        replace hRg : vg = .bool true := hRg
                                        subst hRg
                                        obtain ⟨v4, hv4, hR4⟩ := got_of hs 29 162 (by kernel_rfl) (by rfl)
                                        replace hR4 : VEs (fun _ => True) [(.mk 1 ⟨#[]⟩ 1 none 0 [] 0)] v4 w := hR4
                                        obtain ⟨l4, a4, c4, rfl, r4, i4, q4⟩ := hR4
                                        exact ⟨wanted_true (j := 26) (d := 159) (by rfl) (by rfl) hvg, _, run_b (qs := #[(0, .int .u8 8), (1, .string ⟨#[102]⟩), (2, .string ⟨#[118]⟩), (3, .bool true), (4, .slice a4 l4.length c4)]) rfl (by simp [ev_const, ev hv4]) (by kernel_rfl), mk_st (by unfold U8; omega) (by unfold maxLen; decide) (by unfold maxLen; decide) ⟨l4, a4, c4, rfl, r4, i4, q4⟩ sts_nil sts_nil⟩
                                      refine stepsL_cons (s_call fun a w hC hs => ?_) ?_
                                      · skip
                                        obtain ⟨vg, hvg, hRg⟩ := got_of hs 26 159 (by kernel_rfl) (by rfl)
                                        replace hRg : vg = .bool true := hRg
                                        subst hRg
                                        obtain ⟨v0, hv0, hR0⟩ := got_of hs 27 160 (by kernel_rfl) (by rfl)
                                        replace hR0 : VK (.func (.func 25) #[] #[]) v0 w := hR0
                                        obtain ⟨v1, hv1, hR1⟩ := got_of hs 30 163 (by kernel_rfl) (by rfl)
                                        replace hR1 : VS (fun _ => True) (.mk 8 ⟨#[102]⟩ ⟨#[118]⟩ true none 0 [(.mk 1 ⟨#[]⟩ 1 none 0 [] 0)] none 0 [] none 0 [] 0) v1 w := hR1
                                        subst hR0
                                        exact ⟨wanted_true (j := 26) (d := 159) (by rfl) (by rfl) hvg, _, _, run_callv rfl (ev hv0) (ev hv1) en_ok, (call_ok hR1 (of_decide_eq_true (by kernel_rfl)) (by kernel_rfl : _ = true) (htw4.below hC)).mono fun e w' h => ⟨_, h.1, hC.trans (h.2.mono hC.size), h.2, rfl⟩⟩
                                      refine stepsL_cons (s_val fun a w hC hs => ?_) ?_
                                      · skip
                                        obtain ⟨v0, hv0, hR0⟩ := got_of hs 26 159 (by kernel_rfl) (by rfl)
                                        replace hR0 : VK (.bool true) v0 w := hR0
                                        obtain ⟨v1, hv1, hR1⟩ := got_of hs 31 164 (by kernel_rfl) (by rfl)
                                        replace hR1 : VK (.bool true) v1 w := hR1
                                        subst hR0 hR1
                                        exact ⟨wanted_none rfl, _, run_pk rfl (ev hv0) (by rw [if_pos rfl]; exact ev hv1), rfl⟩
                                      refine stepsL_cons (s_val fun a w hC hs => ?_) ?_
                                      · skip
                                        obtain ⟨v0, hv0, hR0⟩ := got_of hs 32 165 (by kernel_rfl) (by rfl)
                                        replace hR0 : VK (.bool true) v0 w := hR0
                                        exact ⟨wanted_none rfl, _, run_mv (Or.inl rfl) (ev hv0), hR0⟩
                                      refine stepsL_cons (s_val fun a w hC hs => ?_) ?_
                                      · skip
                                        obtain ⟨vg, hvg, hRg⟩ := got_of hs 33 166 (by kernel_rfl) (by rfl)
                                        replace hRg : vg = .bool true := hRg
                                        subst hRg
                                        exact ⟨wanted_true (j := 33) (d := 166) (by rfl) (by rfl) hvg, _, run_b (qs := #[(0, .int .u8 2), (1, .string ⟨#[97]⟩), (2, .int .i64 1024)]) rfl (by simp [ev_const]) (by kernel_rfl), mk_de (by unfold U8; omega) (by unfold maxLen; decide) (by unfold I64; omega) strs_nil sts_nil⟩
                                      refine stepsL_cons (s_new fun a w hC hs => ?_) ?_
                                      · skip
                                        obtain ⟨vg, hvg, hRg⟩ := got_of hs 33 166 (by kernel_rfl) (by rfl)
                                        replace hRg : vg = .bool true := hRg
                                        subst hRg
                                        obtain ⟨v0, hv0, hR0⟩ := got_of hs 34 167 (by kernel_rfl) (by rfl)
                                        replace hR0 : VD (fun _ => True) ⟨2, ⟨#[97]⟩, 1024, none, 0, [], none, 0, [], 0⟩ v0 w := hR0
                                        obtain ⟨⟨k0, n0, m0, a0, c0, l0, x0, y0, z0, p0⟩, rfl, i0, q0⟩ := hR0
                                        exact ⟨wanted_true (j := 33) (d := 166) (by rfl) (by rfl) hvg, _, w.alloc (.cells ⟨deCells [(⟨k0, n0, m0, a0, c0, l0, x0, y0, z0, p0⟩ : De)]⟩ 40), run_bs (qs := #[(0, .agg #[.int .u8 k0, .string n0, .int .i64 m0, .slice a0 l0.length c0, .slice x0 z0.length y0, .int .i64 p0])]) rfl (by simp [ev hv0, De.vals]) (by kernel_rfl), hC.trans ((Ext.al w _).mono hC.size), Ext.al w _, (show De.erL [(⟨k0, n0, m0, a0, c0, l0, x0, y0, z0, p0⟩ : De)] = ([⟨2, ⟨#[97]⟩, 1024, none, 0, [], none, 0, [], 0⟩] : List De) from (by simp only [De.erL, List.map_cons, List.map_nil, q0])) ▸ des_new (T := 40) [(⟨k0, n0, m0, a0, c0, l0, x0, y0, z0, p0⟩ : De)] (by simp) (idL_cons i0 (idL_nil)) trivial⟩
                                      refine stepsL_cons (s_call fun a w hC hs => ?_) ?_
                                      · skip
                                        obtain ⟨vg, hvg, hRg⟩ := got_of hs 33 166 (by kernel_rfl) (by rfl)
                                        replace hRg : vg = .bool true := hRg
                                        subst hRg
                                        obtain ⟨v0, hv0, hR0⟩ := got_of hs 35 168 (by kernel_rfl) (by rfl)
                                        replace hR0 : VDs (fun _ => True) [⟨2, ⟨#[97]⟩, 1024, none, 0, [], none, 0, [], 0⟩] v0 w := hR0
                                        exact ⟨wanted_true (j := 33) (d := 166) (by rfl) (by rfl) hvg, _, _, run_call1 rfl (ev hv0) en_tree_May, (call_may hR0 (of_decide_eq_true (by kernel_rfl)) ((by kernel_rfl) : _ = true) (htw4.below hC)).mono fun e w' h => ⟨_, h.1, hC.trans (h.2.mono hC.size), h.2, rfl⟩⟩
                                      refine stepsL_cons (s_val fun a w hC hs => ?_) ?_
                                      · skip
                                        obtain ⟨v0, hv0, hR0⟩ := got_of hs 33 166 (by kernel_rfl) (by rfl)
                                        replace hR0 : VK (.bool true) v0 w := hR0
                                        obtain ⟨v1, hv1, hR1⟩ := got_of hs 36 169 (by kernel_rfl) (by rfl)
                                        replace hR1 : VK (.bool true) v1 w := hR1
                                        subst hR0 hR1
                                        exact ⟨wanted_none rfl, _, run_pk rfl (ev hv0) (by rw [if_pos rfl]; exact ev hv1), rfl⟩
                                      refine stepsL_cons (s_val fun a w hC hs => ?_) ?_
                                      · skip
                                        obtain ⟨v0, hv0, hR0⟩ := got_of hs 37 170 (by kernel_rfl) (by rfl)
                                        replace hR0 : VK (.bool true) v0 w := hR0
                                        exact ⟨wanted_none rfl, _, run_mv (Or.inl rfl) (ev hv0), hR0⟩
                                      refine stepsL_cons (s_val fun a w hC hs => ?_) ?_
                                      · skip
                                        obtain ⟨vg, hvg, hRg⟩ := got_of hs 38 171 (by kernel_rfl) (by rfl)
                                        replace hRg : vg = .bool true := hRg
                                        subst hRg
                                        exact ⟨wanted_true (j := 38) (d := 171) (by rfl) (by rfl) hvg, _, run_b (qs := #[(0, .int .u8 2), (1, .string ⟨#[97]⟩), (2, .int .i64 1025)]) rfl (by simp [ev_const]) (by kernel_rfl), mk_de (by unfold U8; omega) (by unfold maxLen; decide) (by unfold I64; omega) strs_nil sts_nil⟩
                                      refine stepsL_cons (s_new fun a w hC hs => ?_) ?_
                                      · skip
                                        obtain ⟨vg, hvg, hRg⟩ := got_of hs 38 171 (by kernel_rfl) (by rfl)
                                        replace hRg : vg = .bool true := hRg
                                        subst hRg
                                        obtain ⟨v0, hv0, hR0⟩ := got_of hs 39 172 (by kernel_rfl) (by rfl)
                                        replace hR0 : VD (fun _ => True) ⟨2, ⟨#[97]⟩, 1025, none, 0, [], none, 0, [], 0⟩ v0 w := hR0
                                        obtain ⟨⟨k0, n0, m0, a0, c0, l0, x0, y0, z0, p0⟩, rfl, i0, q0⟩ := hR0
                                        exact ⟨wanted_true (j := 38) (d := 171) (by rfl) (by rfl) hvg, _, w.alloc (.cells ⟨deCells [(⟨k0, n0, m0, a0, c0, l0, x0, y0, z0, p0⟩ : De)]⟩ 40), run_bs (qs := #[(0, .agg #[.int .u8 k0, .string n0, .int .i64 m0, .slice a0 l0.length c0, .slice x0 z0.length y0, .int .i64 p0])]) rfl (by simp [ev hv0, De.vals]) (by kernel_rfl), hC.trans ((Ext.al w _).mono hC.size), Ext.al w _, (show De.erL [(⟨k0, n0, m0, a0, c0, l0, x0, y0, z0, p0⟩ : De)] = ([⟨2, ⟨#[97]⟩, 1025, none, 0, [], none, 0, [], 0⟩] : List De) from (by simp only [De.erL, List.map_cons, List.map_nil, q0])) ▸ des_new (T := 40) [(⟨k0, n0, m0, a0, c0, l0, x0, y0, z0, p0⟩ : De)] (by simp) (idL_cons i0 (idL_nil)) trivial⟩
                                      refine stepsL_cons (s_call fun a w hC hs => ?_) ?_
                                      · skip
                                        obtain ⟨vg, hvg, hRg⟩ := got_of hs 38 171 (by kernel_rfl) (by rfl)
                                        replace hRg : vg = .bool true := hRg
                                        subst hRg
                                        obtain ⟨v0, hv0, hR0⟩ := got_of hs 40 173 (by kernel_rfl) (by rfl)
                                        replace hR0 : VDs (fun _ => True) [⟨2, ⟨#[97]⟩, 1025, none, 0, [], none, 0, [], 0⟩] v0 w := hR0
                                        exact ⟨wanted_true (j := 38) (d := 171) (by rfl) (by rfl) hvg, _, _, run_call1 rfl (ev hv0) en_tree_May, (call_may hR0 (of_decide_eq_true (by kernel_rfl)) ((by kernel_rfl) : _ = false) (htw4.below hC)).mono fun e w' h => ⟨_, h.1, hC.trans (h.2.mono hC.size), h.2, rfl⟩⟩
                                      refine stepsL_cons (s_val fun a w hC hs => ?_) ?_
                                      · skip
                                        obtain ⟨vg, hvg, hRg⟩ := got_of hs 38 171 (by kernel_rfl) (by rfl)
                                        replace hRg : vg = .bool true := hRg
                                        subst hRg
                                        obtain ⟨v0, hv0, hR0⟩ := got_of hs 41 174 (by kernel_rfl) (by rfl)
                                        replace hR0 : VK (.bool false) v0 w := hR0
                                        subst hR0
                                        exact ⟨wanted_true (j := 38) (d := 171) (by rfl) (by rfl) hvg, _, run_un rfl (ev hv0) not_run, rfl⟩
                                      refine stepsL_cons (s_val fun a w hC hs => ?_) ?_
                                      · skip
                                        obtain ⟨v0, hv0, hR0⟩ := got_of hs 38 171 (by kernel_rfl) (by rfl)
                                        replace hR0 : VK (.bool true) v0 w := hR0
                                        obtain ⟨v1, hv1, hR1⟩ := got_of hs 42 175 (by kernel_rfl) (by rfl)
                                        replace hR1 : VK (.bool true) v1 w := hR1
                                        subst hR0 hR1
                                        exact ⟨wanted_none rfl, _, run_pk rfl (ev hv0) (by rw [if_pos rfl]; exact ev hv1), rfl⟩
                                      refine stepsL_cons (s_val fun a w hC hs => ?_) ?_
                                      · skip
                                        obtain ⟨v0, hv0, hR0⟩ := got_of hs 43 176 (by kernel_rfl) (by rfl)
                                        replace hR0 : VK (.bool true) v0 w := hR0
                                        exact ⟨wanted_none rfl, _, run_mv (Or.inl rfl) (ev hv0), hR0⟩
                                      refine stepsL_cons (s_val fun a w hC hs => ?_) ?_
                                      · skip
                                        obtain ⟨vg, hvg, hRg⟩ := got_of hs 44 177 (by kernel_rfl) (by rfl)
                                        replace hRg : vg = .bool true := hRg
                                        subst hRg
                                        exact ⟨wanted_true (j := 44) (d := 177) (by rfl) (by rfl) hvg, _, run_b (qs := #[(0, .int .u8 2), (1, .string ⟨#[97]⟩)]) rfl (by simp [ev_const]) (by kernel_rfl), mk_de (by unfold U8; omega) (by unfold maxLen; decide) (by unfold I64; omega) strs_nil sts_nil⟩
                                      refine stepsL_cons (s_new fun a w hC hs => ?_) ?_
                                      · skip
                                        obtain ⟨vg, hvg, hRg⟩ := got_of hs 44 177 (by kernel_rfl) (by rfl)
                                        replace hRg : vg = .bool true := hRg
                                        subst hRg
                                        obtain ⟨v0, hv0, hR0⟩ := got_of hs 45 178 (by kernel_rfl) (by rfl)
                                        replace hR0 : VD (fun _ => True) ⟨2, ⟨#[97]⟩, 0, none, 0, [], none, 0, [], 0⟩ v0 w := hR0
                                        obtain ⟨⟨k0, n0, m0, a0, c0, l0, x0, y0, z0, p0⟩, rfl, i0, q0⟩ := hR0
                                        exact ⟨wanted_true (j := 44) (d := 177) (by rfl) (by rfl) hvg, _, w.alloc (.cells ⟨deCells [(⟨k0, n0, m0, a0, c0, l0, x0, y0, z0, p0⟩ : De)]⟩ 40), run_bs (qs := #[(0, .agg #[.int .u8 k0, .string n0, .int .i64 m0, .slice a0 l0.length c0, .slice x0 z0.length y0, .int .i64 p0])]) rfl (by simp [ev hv0, De.vals]) (by kernel_rfl), hC.trans ((Ext.al w _).mono hC.size), Ext.al w _, (show De.erL [(⟨k0, n0, m0, a0, c0, l0, x0, y0, z0, p0⟩ : De)] = ([⟨2, ⟨#[97]⟩, 0, none, 0, [], none, 0, [], 0⟩] : List De) from (by simp only [De.erL, List.map_cons, List.map_nil, q0])) ▸ des_new (T := 40) [(⟨k0, n0, m0, a0, c0, l0, x0, y0, z0, p0⟩ : De)] (by simp) (idL_cons i0 (idL_nil)) trivial⟩
                                      refine stepsL_cons (s_call fun a w hC hs => ?_) ?_
                                      · skip
                                        obtain ⟨vg, hvg, hRg⟩ := got_of hs 44 177 (by kernel_rfl) (by rfl)
                                        replace hRg : vg = .bool true := hRg
                                        subst hRg
                                        obtain ⟨v0, hv0, hR0⟩ := got_of hs 46 179 (by kernel_rfl) (by rfl)
                                        replace hR0 : VDs (fun _ => True) [⟨2, ⟨#[97]⟩, 0, none, 0, [], none, 0, [], 0⟩] v0 w := hR0
                                        exact ⟨wanted_true (j := 44) (d := 177) (by rfl) (by rfl) hvg, _, _, run_call1 rfl (ev hv0) en_tree_May, (call_may hR0 (of_decide_eq_true (by kernel_rfl)) ((by kernel_rfl) : _ = false) (htw4.below hC)).mono fun e w' h => ⟨_, h.1, hC.trans (h.2.mono hC.size), h.2, rfl⟩⟩
                                      refine stepsL_cons (s_val fun a w hC hs => ?_) ?_
                                      · skip
                                        obtain ⟨vg, hvg, hRg⟩ := got_of hs 44 177 (by kernel_rfl) (by rfl)
                                        replace hRg : vg = .bool true := hRg
                                        subst hRg
                                        obtain ⟨v0, hv0, hR0⟩ := got_of hs 47 180 (by kernel_rfl) (by rfl)
                                        replace hR0 : VK (.bool false) v0 w := hR0
                                        subst hR0
                                        exact ⟨wanted_true (j := 44) (d := 177) (by rfl) (by rfl) hvg, _, run_un rfl (ev hv0) not_run, rfl⟩
                                      refine stepsL_cons (s_val fun a w hC hs => ?_) ?_
                                      · skip
                                        obtain ⟨v0, hv0, hR0⟩ := got_of hs 44 177 (by kernel_rfl) (by rfl)
                                        replace hR0 : VK (.bool true) v0 w := hR0
                                        obtain ⟨v1, hv1, hR1⟩ := got_of hs 48 181 (by kernel_rfl) (by rfl)
                                        replace hR1 : VK (.bool true) v1 w := hR1
                                        subst hR0 hR1
                                        exact ⟨wanted_none rfl, _, run_pk rfl (ev hv0) (by rw [if_pos rfl]; exact ev hv1), rfl⟩
                                      refine stepsL_cons (s_val fun a w hC hs => ?_) ?_
                                      · skip
                                        obtain ⟨v0, hv0, hR0⟩ := got_of hs 49 182 (by kernel_rfl) (by rfl)
                                        replace hR0 : VK (.bool true) v0 w := hR0
                                        exact ⟨wanted_none rfl, _, run_mv (Or.inl rfl) (ev hv0), hR0⟩
                                      refine stepsL_cons (s_val fun a w hC hs => ?_) ?_
                                      · skip
                                        obtain ⟨vg, hvg, hRg⟩ := got_of hs 50 183 (by kernel_rfl) (by rfl)
                                        replace hRg : vg = .bool true := hRg
                                        subst hRg
                                        exact ⟨wanted_true (j := 50) (d := 183) (by rfl) (by rfl) hvg, _, run_b (qs := #[(0, .int .u8 1), (1, .string ⟨#[97]⟩), (2, .int .i64 (-9223372036854775808))]) rfl (by simp [ev_const]) (by kernel_rfl), mk_de (by unfold U8; omega) (by unfold maxLen; decide) (by unfold I64; omega) strs_nil sts_nil⟩
                                      refine stepsL_cons (s_new fun a w hC hs => ?_) ?_
                                      · skip
                                        obtain ⟨vg, hvg, hRg⟩ := got_of hs 50 183 (by kernel_rfl) (by rfl)
                                        replace hRg : vg = .bool true := hRg
                                        subst hRg
                                        obtain ⟨v0, hv0, hR0⟩ := got_of hs 51 184 (by kernel_rfl) (by rfl)
                                        replace hR0 : VD (fun _ => True) ⟨1, ⟨#[97]⟩, (-9223372036854775808), none, 0, [], none, 0, [], 0⟩ v0 w := hR0
                                        obtain ⟨⟨k0, n0, m0, a0, c0, l0, x0, y0, z0, p0⟩, rfl, i0, q0⟩ := hR0
                                        exact ⟨wanted_true (j := 50) (d := 183) (by rfl) (by rfl) hvg, _, w.alloc (.cells ⟨deCells [(⟨k0, n0, m0, a0, c0, l0, x0, y0, z0, p0⟩ : De)]⟩ 40), run_bs (qs := #[(0, .agg #[.int .u8 k0, .string n0, .int .i64 m0, .slice a0 l0.length c0, .slice x0 z0.length y0, .int .i64 p0])]) rfl (by simp [ev hv0, De.vals]) (by kernel_rfl), hC.trans ((Ext.al w _).mono hC.size), Ext.al w _, (show De.erL [(⟨k0, n0, m0, a0, c0, l0, x0, y0, z0, p0⟩ : De)] = ([⟨1, ⟨#[97]⟩, (-9223372036854775808), none, 0, [], none, 0, [], 0⟩] : List De) from (by simp only [De.erL, List.map_cons, List.map_nil, q0])) ▸ des_new (T := 40) [(⟨k0, n0, m0, a0, c0, l0, x0, y0, z0, p0⟩ : De)] (by simp) (idL_cons i0 (idL_nil)) trivial⟩
                                      refine stepsL_cons (s_call fun a w hC hs => ?_) ?_
                                      · skip
                                        obtain ⟨vg, hvg, hRg⟩ := got_of hs 50 183 (by kernel_rfl) (by rfl)
                                        replace hRg : vg = .bool true := hRg
                                        subst hRg
                                        obtain ⟨v0, hv0, hR0⟩ := got_of hs 52 185 (by kernel_rfl) (by rfl)
                                        replace hR0 : VDs (fun _ => True) [⟨1, ⟨#[97]⟩, (-9223372036854775808), none, 0, [], none, 0, [], 0⟩] v0 w := hR0
                                        exact ⟨wanted_true (j := 50) (d := 183) (by rfl) (by rfl) hvg, _, _, run_call1 rfl (ev hv0) en_tree_May, (call_may hR0 (of_decide_eq_true (by kernel_rfl)) ((by kernel_rfl) : _ = true) (htw4.below hC)).mono fun e w' h => ⟨_, h.1, hC.trans (h.2.mono hC.size), h.2, rfl⟩⟩
                                      refine stepsL_cons (s_val fun a w hC hs => ?_) ?_
                                      · skip
                                        obtain ⟨v0, hv0, hR0⟩ := got_of hs 50 183 (by kernel_rfl) (by rfl)
                                        replace hR0 : VK (.bool true) v0 w := hR0
                                        obtain ⟨v1, hv1, hR1⟩ := got_of hs 53 186 (by kernel_rfl) (by rfl)
                                        replace hR1 : VK (.bool true) v1 w := hR1
                                        subst hR0 hR1
                                        exact ⟨wanted_none rfl, _, run_pk rfl (ev hv0) (by rw [if_pos rfl]; exact ev hv1), rfl⟩
                                      refine stepsL_cons (s_val fun a w hC hs => ?_) ?_
                                      · skip
                                        obtain ⟨v0, hv0, hR0⟩ := got_of hs 54 187 (by kernel_rfl) (by rfl)
                                        replace hR0 : VK (.bool true) v0 w := hR0
                                        exact ⟨wanted_none rfl, _, run_mv (Or.inl rfl) (ev hv0), hR0⟩
                                      refine stepsL_cons (s_val fun a w hC hs => ?_) ?_
                                      · skip
                                        obtain ⟨vg, hvg, hRg⟩ := got_of hs 55 188 (by kernel_rfl) (by rfl)
                                        replace hRg : vg = .bool true := hRg
                                        subst hRg
                                        exact ⟨wanted_true (j := 55) (d := 188) (by rfl) (by rfl) hvg, _, run_b (qs := #[(0, .int .u8 3), (1, .string ⟨#[97]⟩), (2, .int .i64 1)]) rfl (by simp [ev_const]) (by kernel_rfl), mk_de (by unfold U8; omega) (by unfold maxLen; decide) (by unfold I64; omega) strs_nil sts_nil⟩
                                      refine stepsL_cons (s_new fun a w hC hs => ?_) ?_
                                      · skip
                                        obtain ⟨vg, hvg, hRg⟩ := got_of hs 55 188 (by kernel_rfl) (by rfl)
                                        replace hRg : vg = .bool true := hRg
                                        subst hRg
                                        obtain ⟨v0, hv0, hR0⟩ := got_of hs 56 189 (by kernel_rfl) (by rfl)
                                        replace hR0 : VD (fun _ => True) ⟨3, ⟨#[97]⟩, 1, none, 0, [], none, 0, [], 0⟩ v0 w := hR0
                                        obtain ⟨⟨k0, n0, m0, a0, c0, l0, x0, y0, z0, p0⟩, rfl, i0, q0⟩ := hR0
                                        exact ⟨wanted_true (j := 55) (d := 188) (by rfl) (by rfl) hvg, _, w.alloc (.cells ⟨deCells [(⟨k0, n0, m0, a0, c0, l0, x0, y0, z0, p0⟩ : De)]⟩ 40), run_bs (qs := #[(0, .agg #[.int .u8 k0, .string n0, .int .i64 m0, .slice a0 l0.length c0, .slice x0 z0.length y0, .int .i64 p0])]) rfl (by simp [ev hv0, De.vals]) (by kernel_rfl), hC.trans ((Ext.al w _).mono hC.size), Ext.al w _, (show De.erL [(⟨k0, n0, m0, a0, c0, l0, x0, y0, z0, p0⟩ : De)] = ([⟨3, ⟨#[97]⟩, 1, none, 0, [], none, 0, [], 0⟩] : List De) from (by simp only [De.erL, List.map_cons, List.map_nil, q0])) ▸ des_new (T := 40) [(⟨k0, n0, m0, a0, c0, l0, x0, y0, z0, p0⟩ : De)] (by simp) (idL_cons i0 (idL_nil)) trivial⟩
                                      refine stepsL_cons (s_call fun a w hC hs => ?_) ?_
                                      · skip
                                        obtain ⟨vg, hvg, hRg⟩ := got_of hs 55 188 (by kernel_rfl) (by rfl)
                                        replace hRg : vg = .bool true := hRg
                                        subst hRg
                                        obtain ⟨v0, hv0, hR0⟩ := got_of hs 57 190 (by kernel_rfl) (by rfl)
                                        replace hR0 : VDs (fun _ => True) [⟨3, ⟨#[97]⟩, 1, none, 0, [], none, 0, [], 0⟩] v0 w := hR0
                                        exact ⟨wanted_true (j := 55) (d := 188) (by rfl) (by rfl) hvg, _, _, run_call1 rfl (ev hv0) en_tree_May, (call_may hR0 (of_decide_eq_true (by kernel_rfl)) ((by kernel_rfl) : _ = false) (htw4.below hC)).mono fun e w' h => ⟨_, h.1, hC.trans (h.2.mono hC.size), h.2, rfl⟩⟩
                                      refine stepsL_cons (s_val fun a w hC hs => ?_) ?_
                                      · skip
                                        obtain ⟨vg, hvg, hRg⟩ := got_of hs 55 188 (by kernel_rfl) (by rfl)
                                        replace hRg : vg = .bool true := hRg
                                        subst hRg
                                        obtain ⟨v0, hv0, hR0⟩ := got_of hs 58 191 (by kernel_rfl) (by rfl)
                                        replace hR0 : VK (.bool false) v0 w := hR0
                                        subst hR0
                                        exact ⟨wanted_true (j := 55) (d := 188) (by rfl) (by rfl) hvg, _, run_un rfl (ev hv0) not_run, rfl⟩
                                      refine stepsL_cons (s_val fun a w hC hs => ?_) ?_
                                      · skip
                                        obtain ⟨v0, hv0, hR0⟩ := got_of hs 55 188 (by kernel_rfl) (by rfl)
                                        replace hR0 : VK (.bool true) v0 w := hR0
                                        obtain ⟨v1, hv1, hR1⟩ := got_of hs 59 192 (by kernel_rfl) (by rfl)
                                        replace hR1 : VK (.bool true) v1 w := hR1
                                        subst hR0 hR1
                                        exact ⟨wanted_none rfl, _, run_pk rfl (ev hv0) (by rw [if_pos rfl]; exact ev hv1), rfl⟩
                                      refine stepsL_cons (s_val fun a w hC hs => ?_) ?_
                                      · skip
                                        obtain ⟨v0, hv0, hR0⟩ := got_of hs 60 193 (by kernel_rfl) (by rfl)
                                        replace hR0 : VK (.bool true) v0 w := hR0
                                        exact ⟨wanted_none rfl, _, run_mv (Or.inl rfl) (ev hv0), hR0⟩
                                      refine stepsL_cons (s_new fun a w hC hs => ?_) ?_
                                      · skip
                                        obtain ⟨vg, hvg, hRg⟩ := got_of hs 61 194 (by kernel_rfl) (by rfl)
                                        replace hRg : vg = .bool true := hRg
                                        subst hRg
                                        exact ⟨wanted_true (j := 61) (d := 194) (by rfl) (by rfl) hvg, _, w.alloc (.cells ⟨strCells [⟨#[98]⟩]⟩ 9), run_bs (qs := #[(0, .string ⟨#[98]⟩)]) rfl (by simp [ev_const]) (by kernel_rfl), hC.trans ((Ext.al w _).mono hC.size), Ext.al w _, strs_new (T := 9) [⟨#[98]⟩] (by simp) (by intro p hp; simp only [List.mem_cons, List.mem_nil_iff, or_false] at hp; rcases hp with rfl <;> (unfold maxLen; decide)) trivial⟩
                                      refine stepsL_cons (s_val fun a w hC hs => ?_) ?_
                                      · skip
                                        obtain ⟨vg, hvg, hRg⟩ := got_of hs 61 194 (by kernel_rfl) (by rfl)
                                        replace hRg : vg = .bool true := hRg
                                        subst hRg
                                        obtain ⟨v3, hv3, hR3⟩ := got_of hs 62 195 (by kernel_rfl) (by rfl)
                                        replace hR3 : VNs (fun _ => True) [⟨#[98]⟩] v3 w := hR3
                                        obtain ⟨a3, c3, rfl, r3, i3⟩ := hR3
                                        exact ⟨wanted_true (j := 61) (d := 194) (by rfl) (by rfl) hvg, _, run_b (qs := #[(0, .int .u8 5), (1, .string ⟨#[97]⟩), (3, .slice a3 1 c3)]) rfl (by simp [ev_const, ev hv3]) (by kernel_rfl), mk_de (by unfold U8; omega) (by unfold maxLen; decide) (by unfold I64; omega) ⟨a3, c3, rfl, r3, i3⟩ sts_nil⟩
                                      refine stepsL_cons (s_new fun a w hC hs => ?_) ?_
                                      · skip
                                        obtain ⟨vg, hvg, hRg⟩ := got_of hs 61 194 (by kernel_rfl) (by rfl)
                                        replace hRg : vg = .bool true := hRg
                                        subst hRg
                                        obtain ⟨v0, hv0, hR0⟩ := got_of hs 63 196 (by kernel_rfl) (by rfl)
                                        replace hR0 : VD (fun _ => True) ⟨5, ⟨#[97]⟩, 0, none, 0, [⟨#[98]⟩], none, 0, [], 0⟩ v0 w := hR0
                                        obtain ⟨⟨k0, n0, m0, a0, c0, l0, x0, y0, z0, p0⟩, rfl, i0, q0⟩ := hR0
                                        exact ⟨wanted_true (j := 61) (d := 194) (by rfl) (by rfl) hvg, _, w.alloc (.cells ⟨deCells [(⟨k0, n0, m0, a0, c0, l0, x0, y0, z0, p0⟩ : De)]⟩ 40), run_bs (qs := #[(0, .agg #[.int .u8 k0, .string n0, .int .i64 m0, .slice a0 l0.length c0, .slice x0 z0.length y0, .int .i64 p0])]) rfl (by simp [ev hv0, De.vals]) (by kernel_rfl), hC.trans ((Ext.al w _).mono hC.size), Ext.al w _, (show De.erL [(⟨k0, n0, m0, a0, c0, l0, x0, y0, z0, p0⟩ : De)] = ([⟨5, ⟨#[97]⟩, 0, none, 0, [⟨#[98]⟩], none, 0, [], 0⟩] : List De) from (by simp only [De.erL, List.map_cons, List.map_nil, q0])) ▸ des_new (T := 40) [(⟨k0, n0, m0, a0, c0, l0, x0, y0, z0, p0⟩ : De)] (by simp) (idL_cons i0 (idL_nil)) trivial⟩
                                      refine stepsL_cons (s_call fun a w hC hs => ?_) ?_
                                      · skip
                                        obtain ⟨vg, hvg, hRg⟩ := got_of hs 61 194 (by kernel_rfl) (by rfl)
                                        replace hRg : vg = .bool true := hRg
                                        subst hRg
                                        obtain ⟨v0, hv0, hR0⟩ := got_of hs 64 197 (by kernel_rfl) (by rfl)
                                        replace hR0 : VDs (fun _ => True) [⟨5, ⟨#[97]⟩, 0, none, 0, [⟨#[98]⟩], none, 0, [], 0⟩] v0 w := hR0
                                        exact ⟨wanted_true (j := 61) (d := 194) (by rfl) (by rfl) hvg, _, _, run_call1 rfl (ev hv0) en_tree_May, (call_may hR0 (of_decide_eq_true (by kernel_rfl)) ((by kernel_rfl) : _ = false) (htw4.below hC)).mono fun e w' h => ⟨_, h.1, hC.trans (h.2.mono hC.size), h.2, rfl⟩⟩
                                      refine stepsL_cons (s_val fun a w hC hs => ?_) ?_
                                      · skip
                                        obtain ⟨vg, hvg, hRg⟩ := got_of hs 61 194 (by kernel_rfl) (by rfl)
                                        replace hRg : vg = .bool true := hRg
                                        subst hRg
                                        obtain ⟨v0, hv0, hR0⟩ := got_of hs 65 198 (by kernel_rfl) (by rfl)
                                        replace hR0 : VK (.bool false) v0 w := hR0
                                        subst hR0
                                        exact ⟨wanted_true (j := 61) (d := 194) (by rfl) (by rfl) hvg, _, run_un rfl (ev hv0) not_run, rfl⟩
                                      refine stepsL_cons (s_val fun a w hC hs => ?_) ?_
                                      · skip
                                        obtain ⟨v0, hv0, hR0⟩ := got_of hs 61 194 (by kernel_rfl) (by rfl)
                                        replace hR0 : VK (.bool true) v0 w := hR0
                                        obtain ⟨v1, hv1, hR1⟩ := got_of hs 66 199 (by kernel_rfl) (by rfl)
                                        replace hR1 : VK (.bool true) v1 w := hR1
                                        subst hR0 hR1
                                        exact ⟨wanted_none rfl, _, run_pk rfl (ev hv0) (by rw [if_pos rfl]; exact ev hv1), rfl⟩
                                      refine stepsL_cons (s_val fun a w hC hs => ?_) ?_
                                      · skip
                                        obtain ⟨v0, hv0, hR0⟩ := got_of hs 67 200 (by kernel_rfl) (by rfl)
                                        replace hR0 : VK (.bool true) v0 w := hR0
                                        exact ⟨wanted_none rfl, _, run_mv (Or.inl rfl) (ev hv0), hR0⟩
                                      refine stepsL_cons (s_val fun a w hC hs => ?_) ?_
                                      · skip
                                        obtain ⟨vg, hvg, hRg⟩ := got_of hs 68 201 (by kernel_rfl) (by rfl)
                                        replace hRg : vg = .bool true := hRg
                                        subst hRg
                                        exact ⟨wanted_true (j := 68) (d := 201) (by rfl) (by rfl) hvg, _, run_b (qs := #[(0, .int .u8 6), (1, .string ⟨#[97]⟩)]) rfl (by simp [ev_const]) (by kernel_rfl), mk_de (by unfold U8; omega) (by unfold maxLen; decide) (by unfold I64; omega) strs_nil sts_nil⟩
                                      refine stepsL_cons (s_new fun a w hC hs => ?_) ?_
                                      · skip
                                        obtain ⟨vg, hvg, hRg⟩ := got_of hs 68 201 (by kernel_rfl) (by rfl)
                                        replace hRg : vg = .bool true := hRg
                                        subst hRg
                                        obtain ⟨v0, hv0, hR0⟩ := got_of hs 69 202 (by kernel_rfl) (by rfl)
                                        replace hR0 : VD (fun _ => True) ⟨6, ⟨#[97]⟩, 0, none, 0, [], none, 0, [], 0⟩ v0 w := hR0
                                        obtain ⟨⟨k0, n0, m0, a0, c0, l0, x0, y0, z0, p0⟩, rfl, i0, q0⟩ := hR0
                                        exact ⟨wanted_true (j := 68) (d := 201) (by rfl) (by rfl) hvg, _, w.alloc (.cells ⟨deCells [(⟨k0, n0, m0, a0, c0, l0, x0, y0, z0, p0⟩ : De)]⟩ 40), run_bs (qs := #[(0, .agg #[.int .u8 k0, .string n0, .int .i64 m0, .slice a0 l0.length c0, .slice x0 z0.length y0, .int .i64 p0])]) rfl (by simp [ev hv0, De.vals]) (by kernel_rfl), hC.trans ((Ext.al w _).mono hC.size), Ext.al w _, (show De.erL [(⟨k0, n0, m0, a0, c0, l0, x0, y0, z0, p0⟩ : De)] = ([⟨6, ⟨#[97]⟩, 0, none, 0, [], none, 0, [], 0⟩] : List De) from (by simp only [De.erL, List.map_cons, List.map_nil, q0])) ▸ des_new (T := 40) [(⟨k0, n0, m0, a0, c0, l0, x0, y0, z0, p0⟩ : De)] (by simp) (idL_cons i0 (idL_nil)) trivial⟩
                                      refine stepsL_cons (s_call fun a w hC hs => ?_) ?_
                                      · skip
                                        obtain ⟨vg, hvg, hRg⟩ := got_of hs 68 201 (by kernel_rfl) (by rfl)
                                        replace hRg : vg = .bool true := hRg
                                        subst hRg
                                        obtain ⟨v0, hv0, hR0⟩ := got_of hs 70 203 (by kernel_rfl) (by rfl)
                                        replace hR0 : VDs (fun _ => True) [⟨6, ⟨#[97]⟩, 0, none, 0, [], none, 0, [], 0⟩] v0 w := hR0
                                        exact ⟨wanted_true (j := 68) (d := 201) (by rfl) (by rfl) hvg, _, _, run_call1 rfl (ev hv0) en_tree_May, (call_may hR0 (of_decide_eq_true (by kernel_rfl)) ((by kernel_rfl) : _ = false) (htw4.below hC)).mono fun e w' h => ⟨_, h.1, hC.trans (h.2.mono hC.size), h.2, rfl⟩⟩
                                      refine stepsL_cons (s_val fun a w hC hs => ?_) ?_
                                      · skip
                                        obtain ⟨vg, hvg, hRg⟩ := got_of hs 68 201 (by kernel_rfl) (by rfl)
                                        replace hRg : vg = .bool true := hRg
                                        subst hRg
                                        obtain ⟨v0, hv0, hR0⟩ := got_of hs 71 204 (by kernel_rfl) (by rfl)
                                        replace hR0 : VK (.bool false) v0 w := hR0
                                        subst hR0
                                        exact ⟨wanted_true (j := 68) (d := 201) (by rfl) (by rfl) hvg, _, run_un rfl (ev hv0) not_run, rfl⟩
                                      refine stepsL_cons (s_val fun a w hC hs => ?_) ?_
                                      · skip
                                        obtain ⟨v0, hv0, hR0⟩ := got_of hs 68 201 (by kernel_rfl) (by rfl)
                                        replace hR0 : VK (.bool true) v0 w := hR0
                                        obtain ⟨v1, hv1, hR1⟩ := got_of hs 72 205 (by kernel_rfl) (by rfl)
                                        replace hR1 : VK (.bool true) v1 w := hR1
                                        subst hR0 hR1
                                        exact ⟨wanted_none rfl, _, run_pk rfl (ev hv0) (by rw [if_pos rfl]; exact ev hv1), rfl⟩
                                      refine stepsL_cons (s_val fun a w hC hs => ?_) ?_
                                      · skip
                                        obtain ⟨v0, hv0, hR0⟩ := got_of hs 73 206 (by kernel_rfl) (by rfl)
                                        replace hR0 : VK (.bool true) v0 w := hR0
                                        exact ⟨wanted_none rfl, _, run_mv (Or.inl rfl) (ev hv0), hR0⟩
                                      refine stepsL_cons (s_call fun a w hC hs => ?_) ?_
                                      · skip
                                        obtain ⟨vg, hvg, hRg⟩ := got_of hs 74 207 (by kernel_rfl) (by rfl)
                                        replace hRg : vg = .bool true := hRg
                                        subst hRg
                                        exact ⟨wanted_true (j := 74) (d := 207) (by rfl) (by rfl) hvg, _, _, run_call0 rfl en_bobbinlaw02_awake, (awake_any w (htw4.below hC)).mono fun e w' h => ⟨_, h.1, hC.trans (h.2.mono hC.size), h.2, rfl⟩⟩
                                      refine stepsL_cons (s_val fun a w hC hs => ?_) ?_
                                      · skip
                                        obtain ⟨v0, hv0, hR0⟩ := got_of hs 74 207 (by kernel_rfl) (by rfl)
                                        replace hR0 : VK (.bool true) v0 w := hR0
                                        obtain ⟨v1, hv1, hR1⟩ := got_of hs 75 208 (by kernel_rfl) (by rfl)
                                        replace hR1 : VK (.bool true) v1 w := hR1
                                        subst hR0 hR1
                                        exact ⟨wanted_none rfl, _, run_pk rfl (ev hv0) (by rw [if_pos rfl]; exact ev hv1), rfl⟩
                                      refine stepsL_cons (s_val fun a w hC hs => ?_) ?_
                                      · skip
                                        obtain ⟨v0, hv0, hR0⟩ := got_of hs 76 209 (by kernel_rfl) (by rfl)
                                        replace hR0 : VK (.bool true) v0 w := hR0
                                        exact ⟨wanted_none rfl, _, run_mv (Or.inr rfl) (ev hv0), hR0⟩
                                      exact stepsL_nil
                                    case hend =>
                                      intro σ V39 hC hR
                                      have hlast := hR 77 (by simp)
                                      generalize hF : fillL _ _ _ _ _ = F
                                      simp [fillL, dstOf, List.range, List.range.loop, Act.put] at hF
                                      subst hF
                                      replace hlast : σ 77 = .bool true := hlast
                                      rw [hlast]
                                      have hfin := hbw4.out.trans (hC.mono hbw4.out.size)
                                      clear hR hC hlast
                                      go_wp2_with fail
                                      go_ret
                                      exact ⟨rfl, hfin⟩
end Go.Proofs.YtolmhcdcfnoicaaDoor.Tr
