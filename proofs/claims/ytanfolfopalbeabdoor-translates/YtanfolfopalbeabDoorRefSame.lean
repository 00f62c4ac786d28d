import Derived.Test.YtanfolfopalbeabDoorRefTab
import Derived.Test.YtanfolfopalbeabDoorRefOld
import Derived.Test.YtanfolfopalbeabDoorDigSame
namespace Go.Proofs.YtanfolfopalbeabDoor
open Go.RowKit

set_option maxRecDepth 100000 in
theorem len_same (x : Nat) (hx : x < 4294967296) : lenB (x % 18446744073709551616) 8 = lenR x 8 := by
  simp only [lenB, lenR, show List.range 8 = [0, 1, 2, 3, 4, 5, 6, 7] from rfl, List.map_cons, List.map_nil, bsh]
  have e : x % 18446744073709551616 = x := by omega
  rw [e]
  have h0 : x / 72057594037927936 = x / 2 ^ (8 * (7 - 0)) % 256 := by
    simp only [show 2 ^ (8 * (7 - 0)) = 72057594037927936 from rfl]; omega
  have h1 : x * 256 % 18446744073709551616 / 72057594037927936 = x / 2 ^ (8 * (7 - 1)) % 256 := by
    simp only [show 2 ^ (8 * (7 - 1)) = 281474976710656 from rfl]; omega
  have h2 : x * 256 % 18446744073709551616 * 256 % 18446744073709551616 / 72057594037927936 = x / 2 ^ (8 * (7 - 2)) % 256 := by
    simp only [show 2 ^ (8 * (7 - 2)) = 1099511627776 from rfl]; omega
  have h3 : x * 256 % 18446744073709551616 * 256 % 18446744073709551616 * 256 % 18446744073709551616 / 72057594037927936 = x / 2 ^ (8 * (7 - 3)) % 256 := by
    simp only [show 2 ^ (8 * (7 - 3)) = 4294967296 from rfl]; omega
  have b3 : x * 256 % 18446744073709551616 * 256 % 18446744073709551616 * 256 % 18446744073709551616 * 256 % 18446744073709551616 = x * 4294967296 := by omega
  have h4 : x * 4294967296 / 72057594037927936 = x / 2 ^ (8 * (7 - 4)) % 256 := by
    simp only [show 2 ^ (8 * (7 - 4)) = 16777216 from rfl]; omega
  have h5 : x * 4294967296 * 256 % 18446744073709551616 / 72057594037927936 = x / 2 ^ (8 * (7 - 5)) % 256 := by
    simp only [show 2 ^ (8 * (7 - 5)) = 65536 from rfl]; omega
  have h6 : x * 4294967296 * 256 % 18446744073709551616 * 256 % 18446744073709551616 / 72057594037927936 = x / 2 ^ (8 * (7 - 6)) % 256 := by
    simp only [show 2 ^ (8 * (7 - 6)) = 256 from rfl]; omega
  have h7 : x * 4294967296 * 256 % 18446744073709551616 * 256 % 18446744073709551616 * 256 % 18446744073709551616 / 72057594037927936 = x / 2 ^ (8 * (7 - 7)) % 256 := by
    simp only [show 2 ^ (8 * (7 - 7)) = 1 from rfl]; omega
  simp only [List.cons.injEq, and_true]
  exact ⟨congrArg _ h0, congrArg _ h1, congrArg _ h2, congrArg _ h3, congrArg _ (by rw [b3]; exact h4), congrArg _ (by rw [b3]; exact h5), congrArg _ (by rw [b3]; exact h6), congrArg _ (by rw [b3]; exact h7)⟩
theorem cmp_fuel : ∀ (f : Nat) (s : S8) (l : List UInt8) (g : Nat), l.length / 64 ≤ f → l.length / 64 ≤ g → cmp f s l = cmp g s l := by
  intro f
  induction f with
  | zero => intro s l g h1 _; rw [cmp_end _ _ _ (by omega), cmp_end _ _ _ (by omega)]
  | succ f ih =>
    intro s l g h1 h2
    by_cases h : l.length < 64
    · rw [cmp_end _ _ _ h, cmp_end _ _ _ h]
    · cases g with
      | zero => omega
      | succ g =>
        rw [cmp_step _ _ _ h, cmp_step _ _ _ h]
        exact ih _ _ _ (by rw [List.length_drop]; omega) (by rw [List.length_drop]; omega)
theorem cmp_append : ∀ (k : Nat) (s : S8) (a b : List UInt8) (f : Nat), a.length = 64 * k → cmp (f + k) s (a ++ b) = cmp f (cmp k s a) b := by
  intro k
  induction k with
  | zero =>
    intro s a b f h
    obtain rfl : a = [] := List.length_eq_zero_iff.1 (by omega)
    rfl
  | succ k ih =>
    intro s a b f h
    rw [← Nat.add_assoc, cmp_step _ _ _ (by rw [List.length_append]; omega), cmp_step _ _ a (by omega), List.take_append_of_le_length (by omega), List.drop_append_of_le_length (by omega)]
    exact ih _ _ _ _ (by rw [List.length_drop]; omega)
theorem sha_same (l : List UInt8) (h : l.length ≤ 1048576) : dig (cmp (padR l).length H0 (padR l)) = shaL l := by
  unfold shaL
  congr 1
  have hm : l.length - l.length % 64 = 64 * (l.length / 64) := by omega
  generalize hk : l.length / 64 = k at hm
  rw [hm]
  have hpad : padR l = l.take (64 * k) ++ padL (l.drop (64 * k)) l.length := by
    unfold padR padL
    rw [show l.length * 8 = 8 * l.length by omega, len_same _ (by omega), List.length_drop, show zs (l.length - 64 * k + 1) = zs (l.length + 1) by unfold zs; omega]
    simp only [← List.append_assoc]
    rw [List.take_append_drop]
  have ht : (l.take (64 * k)).length = 64 * k := by rw [List.length_take]; omega
  have hf := cmp_fuel (padR l).length H0 (padR l) ((padL (l.drop (64 * k)) l.length).length + k) (by omega) (by
    rw [hpad, List.length_append, ht]; omega)
  rw [hf, hpad, cmp_append k _ _ _ _ ht, cmp_fuel k H0 (l.take (64 * k)) (64 * k) (by rw [ht]; omega) (by rw [ht]; omega)]

end Go.Proofs.YtanfolfopalbeabDoor
