import Derived.Test.YtanfolfopalbeabDoorKnown
import Derived.Deep.RegionWith
import Derived.Deep.CutRange
namespace Go.Proofs.YtanfolfopalbeabDoor
open Go.RowKit

theorem ents_small (ss : List ByteArray) (m : Nat) : ∀ s ∈ ents ss m, s.size ≤ 20 := by
  intro s hs
  simp only [ents, List.mem_map] at hs
  obtain ⟨x, _, rfl⟩ := hs
  exact cut20_size x
theorem chk_of (xs : List ByteArray) (h : xs.length ≤ 100) (hz : ∀ s ∈ xs, s.size ≤ 20) : chk xs = 0 := by
  unfold chk
  rw [if_neg (by omega), if_neg]
  rw [List.any_eq_true]
  rintro ⟨s, hs, hl⟩
  have := hz s hs
  simp at hl
  omega
theorem bs_small (xs : List ByteArray) (hz : ∀ s ∈ xs, s.size ≤ 20) : ∀ e ∈ bs xs, e.length ≤ 20 := by
  intro e he
  simp only [bs, List.mem_map] at he
  obtain ⟨s, hs, rfl⟩ := he
  exact hz s hs
theorem bs_take (xs : List ByteArray) (k : Nat) : (bs xs).take k = bs (xs.take k) := by simp [bs]
/-- The front of a slice of strings. -/
theorem Strs.front {w : World} {b off cap n : Nat} {ss : List ByteArray} (h : Strs w (.slice (some ⟨b, off, none⟩) n cap) ss) (k : Nat) (hk : k ≤ n) : Strs w (.slice (some ⟨b, off, none⟩) k cap) (ss.take k) := by
  obtain ⟨ao, cap', he, h1, h2, h3⟩ := h
  simp only [Value.slice.injEq] at he
  obtain ⟨rfl, rfl, rfl⟩ := he
  have hl : (ss.take k).length = k := by rw [List.length_take]; omega
  refine ⟨some ⟨b, off, none⟩, cap, by rw [hl], by omega, h2, ?_⟩
  rcases h3 with rfl | ⟨b', off', he, hc⟩
  · simp
  · simp only [Option.some.injEq, Addr.mk.injEq, and_true] at he
    obtain ⟨rfl, rfl⟩ := he
    refine .inr ⟨b, off, rfl, fun i hi => ?_⟩
    rw [hc i (by omega)]
    simp only [List.getD]
    rw [List.getElem?_take_of_lt (by omega)]
theorem strs_shape {w : World} {v : Value} {ss : List ByteArray} (h : Strs w v ss) (hne : ss ≠ []) : ∃ b off cap, v = .slice (some ⟨b, off, none⟩) ss.length cap ∧ ss.length ≤ cap := by
  obtain ⟨ao, cap, rfl, h1, h2, h3⟩ := h
  rcases h3 with h3 | ⟨b, off, rfl, _⟩
  · exact absurd h3 hne
  · exact ⟨b, off, cap, rfl, h1⟩

theorem getElem_mid (T : ByteArray) (F R : List UInt8) (l0 : UInt8) (h : T.data.toList = F ++ [l0] ++ R) (i : Nat) (hi : i = F.length) (hb : i < T.size) : T[i] = l0 := by
  subst hi
  have h1 : T.data.toList[F.length]? = some T[F.length] := by
    rw [List.getElem?_eq_getElem (by exact hb)]
    rfl
  have h2 : (F ++ [l0] ++ R)[F.length]? = some l0 := by
    rw [List.append_assoc, List.getElem?_append_right (Nat.le_refl _), Nat.sub_self]
    rfl
  rw [h, h2] at h1
  exact (Option.some.inj h1).symm
theorem xor_byte (l0 : UInt8) (t : Nat) (ht : t < 255) : UInt8.ofNat (bits BinOp.xor IntKind.u8 (l0.toNat : Int) (1 + (t : Int))).toNat ≠ l0 := by
  have hl : l0.toNat < 256 := l0.toNat_lt
  rw [show (1 + (t : Int)) = ((1 + t : Nat) : Int) by omega, u8_xor_nat _ _ hl (by omega), Int.toNat_natCast]
  intro h
  have h1 := congrArg UInt8.toNat h
  have hx : l0.toNat ^^^ (1 + t) < 256 := by
    have := Nat.xor_lt_two_pow (n := 8) (x := l0.toNat) (y := 1 + t) (by omega) (by omega)
    omega
  rw [UInt8.toNat_ofNat', Nat.mod_eq_of_lt (by omega)] at h1
  have h2 : l0.toNat ^^^ (l0.toNat ^^^ (1 + t)) = l0.toNat ^^^ l0.toNat := by rw [h1]
  rw [← Nat.xor_assoc, Nat.xor_self, Nat.zero_xor] at h2
  omega
theorem bad_data (T : ByteArray) (F R : List UInt8) (l0 : UInt8) (a : Nat) (y : Int) (h : T.data.toList = F ++ [l0] ++ R) (ha : F.length + 1 = a) :
    (T.extract 0 (a - 1) ++ strOfNums [y] ++ T.extract a T.size).data.toList = F ++ [UInt8.ofNat y.toNat] ++ R := by
  have e1 : (T.extract 0 (a - 1)).data.toList = F := by
    rw [extract_data, h, List.drop_zero, List.append_assoc]
    exact List.take_left' (by omega)
  have e2 : (T.extract a T.size).data.toList = R := by
    rw [extract_mk_drop, h]
    exact List.drop_left' (by simp; omega)
  simp only [ByteArray.data_append, Array.toList_append, e1, e2]
  rfl
theorem cut_data (T : ByteArray) (F R : List UInt8) (l0 : UInt8) (a : Nat) (h : T.data.toList = F ++ [l0] ++ R) (ha : F.length + 1 = a) : (T.extract 0 (a - 1)).data.toList = F := by
  rw [extract_data, h, List.drop_zero, List.append_assoc]
  exact List.take_left' (by omega)

end Go.Proofs.YtanfolfopalbeabDoor
