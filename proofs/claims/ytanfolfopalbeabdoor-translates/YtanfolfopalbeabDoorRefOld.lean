import Derived.Test.YtanfolfopalbeabDoorRead
namespace Go.Proofs.YtanfolfopalbeabDoor
open Go.RowKit

theorem rOld_step (x : Nat) (c : UInt8) (hx : x < 4294967296) : (IntKind.u64.wrap (bits BinOp.xor IntKind.u64 (x : Int) (IntKind.u64.wrap (c.toNat : Int)) * 16777619)).tmod 4294967296 = ((wkStep x c : Nat) : Int) := by
  have hc : c.toNat < 256 := c.toNat_lt
  have hy : x ^^^ c.toNat < 4294967296 := by
    have := Nat.xor_lt_two_pow (n := 32) (x := x) (y := c.toNat) (by omega) (by omega)
    omega
  rw [show IntKind.u64.wrap (c.toNat : Int) = (c.toNat : Int) by rw [IntKind.wrap_u64]; omega, u64_xor_nat x c.toNat (by omega) (by omega)]
  have hw : IntKind.u64.wrap (((x ^^^ c.toNat : Nat) : Int) * 16777619) = ((x ^^^ c.toNat : Nat) : Int) * 16777619 := by rw [IntKind.wrap_u64]; omega
  rw [hw, Int.tmod_eq_emod_of_nonneg (by omega)]
  unfold wkStep
  omega
theorem rOld_end (x : Nat) (hx : x < 4294967296) : IntKind.u16.wrap (bits BinOp.xor IntKind.u64 ((x : Int) / 65536) ((x : Int) % 65536)) = ((x / 65536 ^^^ x % 65536 : Nat) : Int) := by
  have hy : x / 65536 ^^^ x % 65536 < 65536 := by
    have := Nat.xor_lt_two_pow (n := 16) (x := x / 65536) (y := x % 65536) (by omega) (by omega)
    omega
  rw [show ((x : Int) / 65536) = ((x / 65536 : Nat) : Int) by omega, show ((x : Int) % 65536) = ((x % 65536 : Nat) : Int) by omega, u64_xor_nat _ _ (by omega) (by omega), IntKind.wrap_u16]
  omega

set_option maxRecDepth 100000 in
set_option maxHeartbeats 400000 in
theorem rOld_any (s : ByteArray) (w : World) (hs : s.size ≤ maxLen) :
    Calls Tryd.prog 50 #[.string s] w fun e w' => e = .returned (.int .u16 (wk s.data.toList)) ∧ w' = w := by
  unfold maxLen at hs
  go_enter Tryd.func50, Tryd.ntmps50
  go_wp2
  go_loop [3, 4] (fun n i => ∃ (k : Nat), k ≤ s.size ∧ i = .int .i64 k ∧ n = .int .u64 (wk32 (s.data.toList.take k))) (fun _ i => s.size - (intOf i).toNat)
  case atStart => exact ⟨0, Nat.zero_le _, rfl, rfl⟩
  case round =>
    obtain ⟨k, hk, rfl, rfl⟩ := hrel
    have hx := wk32_lt (s.data.toList.take k)
    by_cases hlt : k < s.size
    · have HS : Hid (wk32 (s.data.toList.take (k + 1)) = wkStep (wk32 (s.data.toList.take k)) s[k]) := by rw [take_snoc s k hlt, wk32_snoc]; exact rfl
      go_wp2
      go_round
      case rel =>
        exact ⟨k + 1, by omega, by go_num, val_int (by rw [HS.out]; exact rOld_step _ _ hx)⟩
      case measure => simp [intOf]; omega
    · go_wp2
      go_ret
      exact ⟨ret_int (by rw [rOld_end _ hx, take_all s k hlt]; rfl), rfl⟩
end Go.Proofs.YtanfolfopalbeabDoor
