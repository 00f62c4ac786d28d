import Derived.Test.YtanfolfopalbeaaDoorChecked
import Derived.WalkKit
import Derived.WalkSpells
import Derived.WalkLawsBesides
import Derived.Test.YtanfolfopalbeaaDoorMath
namespace Go.Proofs.YtanfolfopalbeaaDoor
open Go.RowKit

theorem ret_int {k : IntKind} {a b : Int} (h : a = b) : Ending.returned (.int k a) = .returned (.int k b) := by rw [h]
theorem val_int {k : IntKind} {a b : Int} (h : a = b) : (Value.int k a) = (.int k b) := by rw [h]

theorem weak_step (x : Nat) (c : UInt8) (hx : x < 4294967296) : bits BinOp.xor IntKind.u32 (x : Int) ((c.toNat : Int) % 4294967296) * 16777619 % 4294967296 = ((wkStep x c : Nat) : Int) := by
  have hc : c.toNat < 256 := c.toNat_lt
  rw [show ((c.toNat : Int) % 4294967296) = (c.toNat : Int) by omega, u32_xor_nat x c.toNat hx (by omega)]
  unfold wkStep
  omega
theorem weak_end (x : Nat) (hx : x < 4294967296) : bits BinOp.xor IntKind.u16 ((x : Int) / 65536) (IntKind.u16.wrap x) = ((x / 65536 ^^^ x % 65536 : Nat) : Int) := by
  rw [IntKind.wrap_u16, show ((x : Int) / 65536) = ((x / 65536 : Nat) : Int) by omega, show ((x : Int) % 65536) = ((x % 65536 : Nat) : Int) by omega]
  exact u16_xor_nat _ _ (by omega) (by omega)

set_option maxHeartbeats 400000 in
theorem weak_any (s : ByteArray) (w : World) (hs : s.size ≤ maxLen) :
    Calls Tryd.prog 51 #[.string s] w fun e w' => e = .returned (.int .u16 (wk s.data.toList)) ∧ w' = w := by
  unfold maxLen at hs
  go_enter Tryd.func51, Tryd.ntmps51
  go_wp2
  go_loop [3, 4] (fun n i => ∃ (k : Nat), k ≤ s.size ∧ i = .int .i64 k ∧ n = .int .u32 (wk32 (s.data.toList.take k))) (fun _ i => s.size - (intOf i).toNat)
  case atStart => exact ⟨0, Nat.zero_le _, rfl, rfl⟩
  case round =>
    obtain ⟨k, hk, rfl, rfl⟩ := hrel
    have hx := wk32_lt (s.data.toList.take k)
    by_cases hlt : k < s.size
    · have HS : Hid (wk32 (s.data.toList.take (k + 1)) = wkStep (wk32 (s.data.toList.take k)) s[k]) := by rw [take_snoc s k hlt, wk32_snoc]; exact rfl
      go_wp2
      go_round
      case rel => exact ⟨k + 1, by omega, by go_num, val_int (by rw [HS.out]; exact weak_step _ _ hx)⟩
      case measure => simp [intOf]; omega
    · go_wp2
      go_ret
      exact ⟨ret_int (by rw [weak_end _ hx, take_all s k hlt]; rfl), rfl⟩
end Go.Proofs.YtanfolfopalbeaaDoor
