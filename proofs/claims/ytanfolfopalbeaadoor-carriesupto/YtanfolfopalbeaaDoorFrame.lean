import Derived.Test.YtanfolfopalbeaaDoorWrite
import Derived.BigQuiet
import Derived.BigRegion
import Derived.Deep.QuietTactic
import Derived.Deep.RegionWith
namespace Go.Proofs.YtanfolfopalbeaaDoor
open Go.RowKit

theorem rfErr_short (l : List UInt8) (v : Nat) (h : l.length < 3) : rfErr l v = 3 := by
  match l, h with
  | [], _ => rfl
  | c :: r, h => simp only [rfErr]; rw [if_pos (Or.inr (by simp at h; omega))]
theorem ba_getElem (s : ByteArray) (h : 0 < s.size) : ∃ r, s.data.toList = s[0] :: r ∧ r.length + 1 = s.size := by
  have hl : s.data.toList.length = s.size := rfl
  match e : s.data.toList with
  | [] => rw [e] at hl; simp at hl; omega
  | c :: r =>
    refine ⟨r, ?_, by rw [e] at hl; simpa using hl⟩
    have : s.data.toList[0]? = some s[0] := by
      rw [List.getElem?_eq_getElem (by rw [hl]; exact h)]
      rfl
    rw [e] at this
    simp at this
    rw [← this]
theorem rfErr_frame (s : ByteArray) (v : Nat) (h : 3 ≤ s.size) (hf : 20 < (s[0]'(by omega)).toNat ∨ s.size < 3 + (s[0]'(by omega)).toNat) : rfErr s.data.toList v = 3 := by
  obtain ⟨r, e, hr⟩ := ba_getElem s (by omega)
  rw [e]
  simp only [rfErr]
  rw [if_pos (by rcases hf with hf | hf; exact .inl hf; exact .inr (by omega))]

set_option maxHeartbeats 400000 in
theorem rf_short (s : ByteArray) (v : Nat) (w : World) (hs : s.size < 3) :
    Calls Tryd.prog 96 #[.string s, .int .u16 v] w fun e w' => e = .returned (.tuple #[.string ⟨#[]⟩, .int .u16 0, .int .i64 3]) ∧ Below w.heap.size w w' := by
  go_enter Tryd.func96, Tryd.ntmps96
  go_wp2
  go_ret3
  exact ⟨rfl, Below.refl _ _⟩
set_option maxHeartbeats 400000 in
theorem rf_long (s : ByteArray) (v : Nat) (w : World) (hm : s.size ≤ maxLen) (hs : 3 ≤ s.size) (hl : 20 < (s[0]'(by omega)).toNat) :
    Calls Tryd.prog 96 #[.string s, .int .u16 v] w fun e w' => e = .returned (.tuple #[.string ⟨#[]⟩, .int .u16 0, .int .i64 3]) ∧ Below w.heap.size w w' := by
  unfold maxLen at hm
  have hb := (s[0]'(by omega)).toNat_lt
  go_enter Tryd.func96, Tryd.ntmps96
  go_wp2
  go_ret3
  exact ⟨rfl, Below.refl _ _⟩
set_option maxHeartbeats 400000 in
theorem rf_cut (s : ByteArray) (v : Nat) (w : World) (hm : s.size ≤ maxLen) (hs : 3 ≤ s.size) (hl : ¬ 20 < (s[0]'(by omega)).toNat) (hc : s.size < 3 + (s[0]'(by omega)).toNat) :
    Calls Tryd.prog 96 #[.string s, .int .u16 v] w fun e w' => e = .returned (.tuple #[.string ⟨#[]⟩, .int .u16 0, .int .i64 3]) ∧ Below w.heap.size w w' := by
  unfold maxLen at hm
  have hb := (s[0]'(by omega)).toNat_lt
  go_enter Tryd.func96, Tryd.ntmps96
  go_wp2
  go_ret3
  exact ⟨rfl, Below.refl _ _⟩
theorem rf_facts (s : ByteArray) (v : Nat) (hs : 3 ≤ s.size) (n : Nat) (hn : (s[0]'(by omega)).toNat = n) (hl : n ≤ 20) (hc : 3 + n ≤ s.size) :
    rfErr s.data.toList v = (if (s.extract (1 + n) (3 + n)).data.toList = two (lnk v (s.extract 1 (1 + n)).data.toList) then 0 else 4) ∧
    (rfErr s.data.toList v = 0 → rfEnt s.data.toList v = (s.extract 1 (1 + n)).data.toList ∧ rfLnk s.data.toList v = lnk v (s.extract 1 (1 + n)).data.toList) ∧
    (rfErr s.data.toList v ≠ 0 → rfEnt s.data.toList v = [] ∧ rfLnk s.data.toList v = 0) := by
  obtain ⟨r, e, hr⟩ := ba_getElem s (by omega)
  have e1 : (s.extract (1 + n) (3 + n)).data.toList = (r.drop n).take 2 := by
    rw [extract_data, e, show 1 + n = n + 1 by omega, show 3 + n - (n + 1) = 2 by omega, List.drop_succ_cons]
  have e2 : (s.extract 1 (1 + n)).data.toList = r.take n := by
    rw [extract_data, e, show 1 + n - 1 = n by omega]
    rfl
  have he : rfErr s.data.toList v = (if (r.drop n).take 2 = two (lnk v (r.take n)) then 0 else 4) := by
    rw [e]
    simp only [rfErr]
    rw [if_neg (by omega), hn]
  have hE : rfErr s.data.toList v = 0 → rfEnt s.data.toList v = r.take n := by
    intro h
    unfold rfEnt
    rw [if_pos h, e]
    simp only [List.drop_succ_cons, List.drop_zero, List.headD_cons]
    rw [hn]
  rw [e1, e2]
  refine ⟨he, fun h => ⟨hE h, ?_⟩, fun h => ⟨?_, ?_⟩⟩
  · unfold rfLnk
    rw [if_pos h, hE h]
  · unfold rfEnt
    rw [if_neg h]
  · unfold rfLnk
    rw [if_neg h]
set_option maxHeartbeats 400000 in
theorem rf_whole (s : ByteArray) (v : Nat) (w : World) (hv : v < 65536) (hm : s.size ≤ 140737488351232) (hs : 3 ≤ s.size) (n : Nat) (hn : (s[0]'(by omega)).toNat = n) (hl : n ≤ 20) (hc : 3 + n ≤ s.size) :
    Calls Tryd.prog 96 #[.string s, .int .u16 v] w fun e w' => e = .returned (.tuple #[.string (mk (rfEnt s.data.toList v)), .int .u16 (rfLnk s.data.toList v), .int .i64 (rfErr s.data.toList v)]) ∧ Below w.heap.size w w' := by
  have hb := (s[0]'(by omega)).toNat_lt
  go_enter Tryd.func96, Tryd.ntmps96
  go_wp2_with fail
  refine (link_any v _ _ hv ?_).mono ?_
  · simp; omega
  rintro e w1 ⟨rfl, hb1⟩
  have hv2 := lnk_lt v (s.extract 1 (1 + n)).data.toList
  have hsl : ∀ wx, (Instr.slice 9 (.string s) (some (.int .i64 (1 + (n : Int)))) (some (.int .i64 (3 + (n : Int)))) none).run Tryd.prog wx = .ok (.string (s.extract (1 + n) (3 + n))) wx := fun wx => by
    have := run_slice_string (P := Tryd.prog) wx 9 s .i64 .i64 (1 + (n : Int)) (3 + (n : Int)) Tryd.underlying9 (by omega) (by omega) (by omega)
    rw [this, show (1 + (n : Int)).toNat = 1 + n by omega, show (3 + (n : Int)).toNat = 3 + n by omega]
  have fA : (0 : Int) ≤ 3 + (n : Int) := by omega
  have fB : 3 + (n : Int) ≤ (s.size : Int) := by omega
  have fC : (0 : Int) ≤ 1 + (n : Int) := by omega
  have fD : 1 + (n : Int) ≤ 3 + (n : Int) := by omega
  have fE : IntKind.i64.wrap (1 + (n : Int)) = 1 + (n : Int) := i64w _ (by omega)
  have fF : IntKind.i64.wrap (3 + (n : Int)) = 3 + (n : Int) := i64w _ (by omega)
  have fG : (3 + (n : Int)).toNat = 3 + n := by omega
  have fH : (1 + (n : Int)).toNat = 1 + n := by omega
  have HE := hide (rf_facts s v hs n hn hl hc)
  generalize hle : lnk v (s.extract 1 (1 + n)).data.toList = l at hv2 ⊢
  have HL := hide hle
  clear hle
  cases hq : ((s.extract (1 + n) (3 + n)).toList == two l)
  · have H2 : rfErr s.data.toList v = 4 ∧ rfEnt s.data.toList v = [] ∧ rfLnk s.data.toList v = 0 := by
      have h1 := (unhide HE).1
      rw [unhide HL, if_neg (by rw [ByteArray.toList_eq] at hq; simpa using hq)] at h1
      exact ⟨h1, (unhide HE).2.2 (by rw [h1]; decide)⟩
    have HH := hide H2
    clear H2
    go_wp2_with fail
    go_region_with (go_at_call 95; refine (two_any l _ hv2).mono ?_; rintro e w2 ⟨rfl, hb2⟩)
    have hb3 : Below w.heap.size w w2 := hb1.drew.trans (hb2.mono hb1.size)
    go_wp2
    go_ret3
    exact ⟨by rw [(unhide HH).1, (unhide HH).2.1, (unhide HH).2.2]; rfl, hb3⟩
  · have H2 : rfErr s.data.toList v = 0 ∧ rfEnt s.data.toList v = (s.extract 1 (1 + n)).data.toList ∧ rfLnk s.data.toList v = l := by
      have h1 := (unhide HE).1
      rw [unhide HL, if_pos (by rw [ByteArray.toList_eq] at hq; simpa using hq)] at h1
      have h2 := (unhide HE).2.1 h1
      rw [unhide HL] at h2
      exact ⟨h1, h2⟩
    have HH := hide H2
    clear H2
    go_wp2_with fail
    go_region_with (go_at_call 95; refine (two_any l _ hv2).mono ?_; rintro e w2 ⟨rfl, hb2⟩)
    have hb3 : Below w.heap.size w w2 := hb1.drew.trans (hb2.mono hb1.size)
    go_wp2
    go_ret3
    exact ⟨by rw [(unhide HH).1, (unhide HH).2.1, (unhide HH).2.2]; rfl, hb3⟩

theorem frame_any (s : ByteArray) (v : Nat) (w : World) (hv : v < 65536) (hm : s.size ≤ 140737488351232) :
    Calls Tryd.prog 96 #[.string s, .int .u16 v] w fun e w' => e = .returned (.tuple #[.string (mk (rfEnt s.data.toList v)), .int .u16 (rfLnk s.data.toList v), .int .i64 (rfErr s.data.toList v)]) ∧ Below w.heap.size w w' := by
  have bad : rfErr s.data.toList v = 3 → rfEnt s.data.toList v = [] ∧ rfLnk s.data.toList v = 0 := by
    intro h; unfold rfLnk rfEnt; rw [h]; exact ⟨rfl, rfl⟩
  by_cases h3 : s.size < 3
  · have h := rfErr_short s.data.toList v h3
    rw [h, (bad h).1, (bad h).2]
    exact rf_short s v w h3
  · by_cases hl : 20 < (s[0]'(by omega)).toNat
    · have h := rfErr_frame s v (by omega) (.inl hl)
      rw [h, (bad h).1, (bad h).2]
      exact rf_long s v w (by unfold maxLen; omega) (by omega) hl
    · by_cases hc : s.size < 3 + (s[0]'(by omega)).toNat
      · have h := rfErr_frame s v (by omega) (.inr hc)
        rw [h, (bad h).1, (bad h).2]
        exact rf_cut s v w (by unfold maxLen; omega) (by omega) hl hc
      · exact rf_whole s v w hv hm (by omega) _ rfl (by omega) (by omega)
end Go.Proofs.YtanfolfopalbeaaDoor
