import Derived.Test.YtanfolfopalbeaaBook2
import Derived.Deep.QuietTactic
namespace Go.Proofs.Ytanfolfopalbeaa
open Go.RowKit

set_option maxRecDepth 100000 in
set_option maxHeartbeats 800000 in
theorem disks_any (G : Nat) (b : Bk) (w : World) (hB : BkAt w G b) (hk : b.kv = .slice none 0 0) (hp : b.pv = .slice none 0 0) :
    Calls Try.prog 21 #[.pointer (some ⟨G, 0, none⟩)] w fun e w' => e = .returned (.bool true) ∧ w' = w := by
  have c5 := hB.c5
  have c7 := hB.c7
  rw [hk] at c5
  rw [hp] at c7
  clear hB hk hp
  go_enter Try.func21, Try.ntmps21
  go_wp2
  go_loopw [3] (fun v wr => v = .int .i64 0 ∧ wr = w) (fun _ _ => 0)
  case atStart => exact ⟨rfl, rfl⟩
  case round =>
    obtain ⟨rfl, rfl⟩ := hrel
    go_wp2
    go_loopw [5] (fun v wq => v = .int .i64 0 ∧ wq = wr) (fun _ _ => 0)
    case atStart => exact ⟨rfl, rfl⟩
    case round =>
      obtain ⟨rfl, rfl⟩ := hrel
      go_wp2
      go_ret
      exact ⟨rfl, rfl⟩

theorem drew_grown (w : World) : w.grownBy w.drew none := grown_drew (grown_refl w none)
theorem drewN_grown (w : World) : ∀ n, w.grownBy (w.drewN n) none := fun _ => ⟨rfl, rfl, rfl, Nat.le_refl _, fun _ _ _ => rfl⟩
theorem below_of_grown {w w' : World} (h : w.grownBy w' none) : Below w.heap.size w w' := ⟨h.os, h.tape, h.output, h.size, fun k hk => h.block k hk (fun e => by cases e)⟩

set_option maxRecDepth 100000 in
set_option maxHeartbeats 1600000 in
theorem holds_any (B G : Nat) (b : Bk) (w0 w : World) (recs : List (Value × ByteArray)) (S : BkI B w0 w G b recs) (hrl : recs.length ≤ 1000)
    (hdv : b.dv = .slice none 0 0) (hkv : b.kv = .slice none 0 0) (hpv : b.pv = .slice none 0 0) :
    Calls Try.prog 7 #[.pointer (some ⟨G, 0, none⟩)] w fun e w' => e = .returned (.bool true) ∧ Below w.heap.size w w' := by
  have HS := hide S
  have hdk := fun (wq : World) (h : BkAt wq G b) => disks_any G b wq h hkv hpv
  have HDV := hide hdv
  clear S hdv hkv hpv
  go_enter Try.func7, Try.ntmps7
  go_wp2
  go_loopw [3] (fun v wr => ∃ k : Nat, k ≤ recs.length ∧ v = .int .i64 k ∧ BkI B w0 wr G b recs ∧ w.grownBy wr none) (fun v _ => recs.length - (intOf v).toNat)
  case atStart => exact ⟨0, Nat.zero_le _, rfl, unhide HS, grown_refl _ _⟩
  case round =>
    clear HS
    obtain ⟨k, hk, rfl, S, hgr⟩ := hrel
    have c1 := S.bk.c1
    have HS := hide S
    have HGR := hide hgr
    clear hgr
    by_cases hlt : k < recs.length
    · have hd : decide ((k : Int) < (recs.length : Int)) = true := by simp; omega
      have j1 : (k : Int) < (recs.length : Int) := by omega
      obtain ⟨gt, ct, htv⟩ : ∃ gt ct, b.tv = .slice (some ⟨gt, 0, none⟩) recs.length ct := by
        rcases S.ht.2 with ⟨_, h0⟩ | ⟨g, cap, cur, h, _⟩
        · rw [List.length_map] at h0; omega
        · rw [List.length_map] at h; exact ⟨g, cap, h⟩
      have hr : recs[k]? = some recs[k] := List.getElem?_eq_getElem hlt
      have hF := S.hf recs[k] (List.getElem_mem hlt)
      have ctk := S.ht.cells (g := gt) (by rw [htv]; rfl) k recs[k].1 (by rw [List.getElem?_map, hr]; rfl)
      rw [Addr.add_lit, Nat.zero_add] at ctk
      rw [htv] at c1
      generalize hrk : recs[k] = r at hF ctk
      obtain ⟨lv, mk⟩ := r
      obtain ⟨ao, n, cap, rfl, hn1, hn2, hn3⟩ := hF
      have HRK := hide hrk
      have HF3 := hide hn3
      unfold maxLen at hn2
      clear S hr hrk hn3
      go_wp2
      go_loopw [4] (fun v wq => ∃ i : Nat, i ≤ n ∧ v = .int .i64 i ∧ wr.grownBy wq none) (fun v _ => n - (intOf v).toNat)
      case atStart => exact ⟨0, Nat.zero_le _, rfl, grown_refl _ _⟩
      case round =>
        obtain ⟨i, hi, rfl, hgq⟩ := hrel
        have S := (unhide HS).later hgq
        have HGQ := hide hgq
        have e1 := S.bk.c1
        rw [htv] at e1
        have e2 := S.ht.cells (g := gt) (by rw [htv]; rfl) k (.slice ao n cap) (by rw [List.getElem?_map, List.getElem?_eq_getElem hlt, unhide HRK]; rfl)
        rw [Addr.add_lit, Nat.zero_add] at e2
        by_cases hin : i < n
        · have hd2 : decide ((i : Int) < (n : Int)) = true := by simp; omega
          have j2 : (i : Int) < (n : Int) := by omega
          obtain ⟨gx, cx, hxv⟩ : ∃ gx cx, b.xv = .slice (some ⟨gx, 0, none⟩) recs.length cx := by
            rcases S.hx.2 with ⟨_, h0⟩ | ⟨g, cap, cur, h, _⟩
            · rw [List.length_map] at h0; omega
            · rw [List.length_map] at h; exact ⟨g, cap, h⟩
          have e3 := S.bk.c2
          rw [hxv] at e3
          have e4 := S.hx.cells (g := gx) (by rw [hxv]; rfl) k (.string mk) (by rw [List.map_map, List.getElem?_map, List.getElem?_eq_getElem hlt, unhide HRK]; rfl)
          rw [Addr.add_lit, Nat.zero_add] at e4
          have hF := S.hf recs[k] (List.getElem_mem hlt)
          rw [unhide HRK] at hF
          obtain ⟨ao', n', cap', he, _, _, hn3⟩ := hF
          injection he with he1 he2 he3
          subst he1 he2 he3
          obtain ⟨g, hao, hc⟩ := hn3 (by omega)
          subst hao
          have e5 := hc i hin
          clear hc hn3 S hgq htv hxv
          go_wp2
          go_quiet (fail)
          go_wp2
          exact ⟨⟨i + 1, by omega, by go_num, grown_trans (unhide HGQ) (drewN_grown _ _)⟩, by simp [intOf]; omega⟩
        · have hd2 : decide ((i : Int) < (n : Int)) = false := by simp; omega
          clear S hgq htv
          go_wp2
          exact ⟨⟨k + 1, by omega, by go_num, (unhide HS).later (unhide HGQ), grown_trans (unhide HGR) (unhide HGQ)⟩, by simp [intOf]; omega⟩
    · have hke : k = recs.length := by omega
      obtain ⟨at1, ct, htv⟩ := own_shape S.ht
      rw [List.length_map] at htv
      rw [htv] at c1
      have c3 := S.bk.c3
      rw [unhide HDV] at c3
      have hd : decide ((k : Int) < (recs.length : Int)) = false := by simp; omega
      have hdk2 := hdk wr S.bk
      clear S htv hdk
      go_wp2
      go_loopw [5] (fun v wq => v = .int .i64 0 ∧ wq = wr) (fun _ _ => 0)
      case atStart => exact ⟨rfl, rfl⟩
      case round =>
        obtain ⟨rfl, rfl⟩ := hrel
        go_wp2_with (go_at_call 21; refine hdk2.mono ?_; rintro e wz ⟨rfl, he⟩; cases he)
        go_ret
        exact ⟨rfl, below_of_grown (unhide HGR)⟩
end Go.Proofs.Ytanfolfopalbeaa
