/- What the two rows over the program's tables share: that a row's list gives the tables, and a world for the witness. -/
import Derived.Test.YtanfolfopalbeabDoorCards
import Derived.Test.YtanfolfopalbeabDoorTie
import Derived.Test.YtanfolfopalbeabDoorKeep
import Derived.ProofKit
import Derived.OpenShut
import Derived.Deep.DeepHandedRow
import Derived.Lib.LaidTab
import Derived.Stop.LaidErr
namespace Go.Proofs.YtanfolfopalbeabDoor
open Go.ChangeShapes Go.WideShapes Go.ChangeAt Go.RowKit

theorem own : ownKnob Tryd.prog.godebug = none := by kernel_rfl
theorem gS : Tryd.prog.globalNamed "ferry/sums.startWords" = some 0 := by kernel_rfl
theorem gR : Tryd.prog.globalNamed "ferry/sums.roundWords" = some 1 := by kernel_rfl
theorem gSType : (Tryd.prog.globals[0]?).map (·.type) = some 132 := by kernel_rfl
theorem gRType : (Tryd.prog.globals[1]?).map (·.type) = some 139 := by kernel_rfl
theorem cellsW8 : Tryd.prog.cellsOf 132 = 8 := by kernel_rfl
theorem cellsW64 : Tryd.prog.cellsOf 139 = 64 := by kernel_rfl
theorem cellsU32 : Tryd.prog.cellsOf 109 = 1 := by kernel_rfl
theorem cellsStr : Tryd.prog.cellsOf 9 = 1 := by kernel_rfl
theorem laidOutP : laidOutB Tryd.prog = true := by kernel_rfl
def Hi : List Int := [1779033703, 3144134277, 1013904242, 2773480762, 1359893119, 2600822924, 528734635, 1541459225]
def Ki : List Int := [1116352408, 1899447441, 3049323471, 3921009573, 961987163, 1508970993, 2453635748, 2870763221, 3624381080, 310598401, 607225278, 1426881987, 1925078388, 2162078206, 2614888103, 3248222580, 3835390401, 4022224774, 264347078, 604807628, 770255983, 1249150122, 1555081692, 1996064986, 2554220882, 2821834349, 2952996808, 3210313671, 3336571891, 3584528711, 113926993, 338241895, 666307205, 773529912, 1294757372, 1396182291, 1695183700, 1986661051, 2177026350, 2456956037, 2730485921, 2820302411, 3259730800, 3345764771, 3516065817, 3600352804, 4094571909, 275423344, 430227734, 506948616, 659060556, 883997877, 958139571, 1322822218, 1537002063, 1747873779, 1955562222, 2024104815, 2227730452, 2361852424, 2428436474, 2756734187, 3204031479, 3329325298]
theorem Hi_at : ∀ t, t < 8 → Hi.getD t 0 = ((Hl.getD t 0 : Nat) : Int) := by decide
theorem Ki_at : ∀ t, t < 64 → Ki.getD t 0 = ((Kl.getD t 0 : Nat) : Int) := by decide

/-- What the row's list gives: the two tables lie in the world. -/
theorem tables {W : World} (h : laidMet Tryd.prog [("ferry/sums.startWords", Rows.laid_ferry_sums_startWords), ("ferry/sums.roundWords", Rows.laid_ferry_sums_roundWords)] W) : Tabs W := by
  have t0 : Lib.TabIs Tryd.prog W "ferry/sums.startWords" .u32 Hi := Lib.tabIs_of_head (rest := [("ferry/sums.roundWords", Rows.laid_ferry_sums_roundWords)]) gS gSType Tryd.underlying132 Tryd.underlying109 cellsU32 cellsW8 h
  have t1 : Lib.TabIs Tryd.prog W "ferry/sums.roundWords" .u32 Ki := Lib.tabIs_of_head (rest := []) gR gRType Tryd.underlying139 Tryd.underlying109 cellsU32 cellsW64 h.tail
  refine ⟨fun t ht => ?_, fun t ht => ?_, ?_⟩
  · rw [t0.cell gS t ht, Hi_at t ht]
  · rw [t1.cell gR t ht, Ki_at t ht]
  · have := cell_lt (t1.cell gR 0 (by decide))
    omega

def lay8 : Obj → Obj
  | .cells _ t frozen => .cells #[.int .u32 1779033703, .int .u32 3144134277, .int .u32 1013904242, .int .u32 2773480762, .int .u32 1359893119, .int .u32 2600822924, .int .u32 528734635, .int .u32 1541459225] t frozen
  | o => o
def lay64 : Obj → Obj
  | .cells _ t frozen => .cells #[.int .u32 1116352408, .int .u32 1899447441, .int .u32 3049323471, .int .u32 3921009573, .int .u32 961987163, .int .u32 1508970993, .int .u32 2453635748, .int .u32 2870763221, .int .u32 3624381080, .int .u32 310598401, .int .u32 607225278, .int .u32 1426881987, .int .u32 1925078388, .int .u32 2162078206, .int .u32 2614888103, .int .u32 3248222580, .int .u32 3835390401, .int .u32 4022224774, .int .u32 264347078, .int .u32 604807628, .int .u32 770255983, .int .u32 1249150122, .int .u32 1555081692, .int .u32 1996064986, .int .u32 2554220882, .int .u32 2821834349, .int .u32 2952996808, .int .u32 3210313671, .int .u32 3336571891, .int .u32 3584528711, .int .u32 113926993, .int .u32 338241895, .int .u32 666307205, .int .u32 773529912, .int .u32 1294757372, .int .u32 1396182291, .int .u32 1695183700, .int .u32 1986661051, .int .u32 2177026350, .int .u32 2456956037, .int .u32 2730485921, .int .u32 2820302411, .int .u32 3259730800, .int .u32 3345764771, .int .u32 3516065817, .int .u32 3600352804, .int .u32 4094571909, .int .u32 275423344, .int .u32 430227734, .int .u32 506948616, .int .u32 659060556, .int .u32 883997877, .int .u32 958139571, .int .u32 1322822218, .int .u32 1537002063, .int .u32 1747873779, .int .u32 1955562222, .int .u32 2024104815, .int .u32 2227730452, .int .u32 2361852424, .int .u32 2428436474, .int .u32 2756734187, .int .u32 3204031479, .int .u32 3329325298] t frozen
  | o => o
/-- A world for the witness: the settled one, the two tables as their initialisers lay them. -/
noncomputable def laidWorld (os : Os) : World :=
  { World.holding Tryd.prog os ⟨#[], #[], []⟩ with heap := ((World.holding Tryd.prog os ⟨#[], #[], []⟩).heap.modify 0 lay8).modify 1 lay64 }
end Go.Proofs.YtanfolfopalbeabDoor
