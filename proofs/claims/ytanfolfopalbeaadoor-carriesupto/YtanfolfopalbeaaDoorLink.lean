import Derived.Test.YtanfolfopalbeaaDoorWeak
import Derived.Outline
namespace Go.Proofs.YtanfolfopalbeaaDoor
open Go.RowKit

theorem hide' {p : Prop} (h : p) : Hid p := h
theorem two0 (v : Nat) (hv : v < 65536) : (v : Int) / 256 = ((UInt8.ofNat (v / 256)).toNat : Int) := by
  rw [UInt8.toNat_ofNat']; omega
theorem two1 (v : Nat) : (v : Int) % 256 = ((UInt8.ofNat (v % 256)).toNat : Int) := by
  rw [UInt8.toNat_ofNat']; omega
theorem str_of_two (P : Program) (w : World) (src dst e ty : TypeId) (v : Nat) (hv : v < 65536) (hs : P.underlying src = some (.slice e)) (he : P.underlying e = some (.int .u8)) (hd : P.underlying dst = some .string) :
    (convert src dst (.slice (some ⟨w.heap.size, 0, none⟩) 2 2)).run P (w.alloc (.cells #[.int .u8 (v / 256), .int .u8 (v % 256)] ty)) = .ok (.string ⟨(two v).toArray⟩) (w.alloc (.cells #[.int .u8 (v / 256), .int .u8 (v % 256)] ty)) := by
  have h := run_convert_bytes_back (P := P) (w.alloc (.cells #[.int .u8 ((v : Int) / 256), .int .u8 ((v : Int) % 256)] ty)) src dst e ⟨w.heap.size, 0, none⟩ 2 (two v) hs he hd
  apply h
  intro j hj
  rw [two0 v hv, two1 v]
  match j, hj with
  | 0, _ => simp [Addr.add, two]
  | 1, _ => simp [Addr.add, two]

set_option maxHeartbeats 400000 in
theorem two_any (v : Nat) (w : World) (hv : v < 65536) :
    Calls Tryd.prog 95 #[.int .u16 v] w fun e w' => e = .returned (.string ⟨(two v).toArray⟩) ∧ Below w.heap.size w w' := by
  have hk := str_of_two Tryd.prog w 45 9 5 5 v hv Tryd.underlying45 Tryd.underlying5 Tryd.underlying9
  go_enter Tryd.func95, Tryd.ntmps95
  go_wp2
  go_ret
  exact ⟨rfl, (Below.refl _ _).alloc (Nat.le_refl _) _⟩

theorem two_size (v : Nat) : (ByteArray.mk (two v).toArray).size = 2 := rfl

/-- Over what a link is summed. -/
def lkt (v : Nat) (s : ByteArray) : ByteArray := ByteArray.mk (two v).toArray ++ s
theorem lkt_size (v : Nat) (s : ByteArray) : (lkt v s).size = 2 + s.size := by
  unfold lkt
  rw [ByteArray.size_append, two_size]
theorem lkt_data (v : Nat) (s : ByteArray) : (lkt v s).data.toList = two v ++ s.data.toList := by simp [lkt]

set_option maxHeartbeats 400000 in
theorem linked_any (v : Nat) (s : ByteArray) (w : World) (hv : v < 65536) (hs : s.size ≤ 140737488351232) :
    Calls Tryd.prog 119 #[.int .u16 v, .string s] w fun e w' => e = .returned (.string (lkt v s)) ∧ Below w.heap.size w w' := by
  go_enter Tryd.func119, Tryd.ntmps119
  go_wp2_with fail
  refine (two_any v _ hv).mono ?_
  rintro e w1 ⟨rfl, hb⟩
  have hz : (ByteArray.mk (two v).toArray).size = 2 := rfl
  have hz2 : (two v).length = 2 := rfl
  go_wp2
  go_ret
  exact ⟨rfl, hb⟩

set_option maxHeartbeats 400000 in
theorem link_any (v : Nat) (s : ByteArray) (w : World) (hv : v < 65536) (hs : s.size ≤ 140737488351232) :
    Calls Tryd.prog 94 #[.int .u16 v, .string s] w fun e w' => e = .returned (.int .u16 (lnk v s.data.toList)) ∧ Below w.heap.size w w' := by
  have HD := hide' (lkt_data v s)
  have hz := lkt_size v s
  have hl := fun wq => linked_any v s wq hv hs
  generalize lkt v s = t at hl hz HD
  go_enter Tryd.func94, Tryd.ntmps94
  go_wp2_with fail
  refine (hl _).mono ?_
  rintro e w1 ⟨rfl, hb⟩
  go_wp2_with fail
  refine (weak_any _ _ (by unfold maxLen; omega)).mono ?_
  rintro e w2 ⟨rfl, rfl⟩
  go_wp2
  go_ret
  refine ⟨?_, hb⟩
  rw [HD.out]
  rfl
end Go.Proofs.YtanfolfopalbeaaDoor
