/- The book's holds, of a book that holds texts alone: the contract. -/
import Derived.Test.YtanfolfopalbeaaBookHo
import Derived.Test.YtanfolfopalbeaaBookTx1
import Derived.BigQuiet
import Derived.Deep.QuietTactic
namespace Go.Proofs.Ytanfolfopalbeaa
open Go.RowKit

theorem bel_of_grown {w w' : World} (h : w.grownBy w' none) : Below w.heap.size w w' := ⟨h.os, h.tape, h.output, h.size, fun k hk => h.block k hk (fun e => by cases e)⟩
theorem drewN_bgrown (w : World) : ∀ n, w.grownBy (w.drewN n) none := fun _ => ⟨rfl, rfl, rfl, Nat.le_refl _, fun _ _ _ => rfl⟩
theorem range_one {w : World} {g i : Nat} {v : Value} (h : w.rangeAt g (i * 1) [v]) : w.cell? ⟨g, i, none⟩ = some v := by
  have := h 0 v rfl
  rwa [Nat.mul_one, Nat.add_zero] at this
set_option maxRecDepth 100000 in
set_option maxHeartbeats 800000 in
theorem disksN_any (ty : TypeId) (o G : Nat) (cs : Array Value) (w : World) (hG : w.heap[G]? = some (.cells cs ty (0, 0))) (h5 : cs[o + 5]? = some (.slice none 0 0)) (h7 : cs[o + 7]? = some (.slice none 0 0)) :
    Calls Try.prog 21 #[.pointer (some ⟨G, o, none⟩)] w fun e w' => e = .returned (.bool true) ∧ w' = w := by
  have c5 : w.cell? ⟨G, o + 5, none⟩ = some (.slice none 0 0) := by rw [cell_of_row w G _ _ _ _ hG]; exact h5
  have c7 : w.cell? ⟨G, o + 7, none⟩ = some (.slice none 0 0) := by rw [cell_of_row w G _ _ _ _ hG]; exact h7
  clear hG h5 h7
  go_enter Try.func21, Try.ntmps21
  go_wp2
  go_loopw [3] (fun v wr => v = .int .i64 0 ∧ wr = w) (fun _ _ => 0)
  case atStart => exact ⟨rfl, rfl⟩
  case round =>
    obtain ⟨rfl, rfl⟩ := hrel
    go_wp2
    go_loopw [5] (fun v wq => v = .int .i64 0 ∧ wq = wr) (fun _ _ => 0)
    case atStart => exact ⟨rfl, rfl⟩
    case round =>
      obtain ⟨rfl, rfl⟩ := hrel
      go_wp2
      go_ret
      exact ⟨rfl, rfl⟩
set_option maxRecDepth 100000 in
set_option maxHeartbeats 3200000 in
theorem holdsN_any (ty : TypeId) (o : Nat) (P2 : Nat → Prop) (B2 G : Nat) (cs : Array Value) (lv mv : Value) (w02 w : World) (rect : List (Value × List Value))
    (St : StG (Kt ty o) P2 B2 w02 w G cs lv mv (rect.map (·.1)) (rect.map (·.2)) rect (.slice none 0 0) 0 [])
    (hT : Marked Mt P2 rect) (ht : rect.length ≤ 1099511627776) (hd3 : cs[o + 3]? = some (.slice none 0 0)) (hd5 : cs[o + 5]? = some (.slice none 0 0)) (hd7 : cs[o + 7]? = some (.slice none 0 0)) :
    Calls Try.prog 7 #[.pointer (some ⟨G, o, none⟩)] w fun e w' => e = .returned (.bool true) ∧ Below w.heap.size w w' := by
  have HS := hide St
  have HM := hide hT
  have hdk := fun (wq : World) (h : w.grownBy wq none) => disksN_any ty o G cs wq (St.later h).bk.1 hd5 hd7
  have HDK := hide hdk
  clear St hT hdk
  go_enter Try.func7, Try.ntmps7
  go_wp2
  go_loopw [3] (fun v wr => ∃ k : Nat, k ≤ rect.length ∧ v = .int .i64 k ∧ w.grownBy wr none) (fun v _ => rect.length - (intOf v).toNat)
  case atStart => exact ⟨0, Nat.zero_le _, rfl, grown_refl _ _⟩
  case round =>
    obtain ⟨k, hk, rfl, hgr⟩ := hrel
    have HGR := hide hgr
    clear hgr
    by_cases hlt : k < rect.length
    · have hd : decide ((k : Int) < (rect.length : Int)) = true := by simp; omega
      have j1 : (k : Int) < (rect.length : Int) := by omega
      have S := (unhide HS).later (unhide HGR)
      obtain ⟨gt, ct, gx, cx, ao, n, cap, rfl, rfl, hrk1, hn1, hn2⟩ := S.look k hlt
      obtain ⟨mk, hrk⟩ : ∃ mk, rect[k] = (.slice ao n cap, mk) := ⟨rect[k].2, Prod.ext hrk1 rfl⟩
      obtain ⟨s, rfl⟩ : Mt mk := by
        have := (unhide HM rect[k] (List.getElem_mem hlt)).1
        rwa [hrk] at this
      have c1 : wr.cell? ⟨G, o + 1, none⟩ = some (.slice (some ⟨gt, 0, none⟩) rect.length ct) := S.bk.cell1
      have ctk := (S.read k hlt hrk).1
      have HRK := hide hrk
      unfold maxLen at hn2
      clear S hrk hrk1
      go_wp2
      go_loopw [4] (fun v wq => ∃ i : Nat, i ≤ n ∧ v = .int .i64 i ∧ wr.grownBy wq none) (fun v _ => n - (intOf v).toNat)
      case atStart => exact ⟨0, Nat.zero_le _, rfl, grown_refl _ _⟩
      case round =>
        obtain ⟨i, hi, rfl, hgq⟩ := hrel
        have S := ((unhide HS).later (unhide HGR)).later hgq
        have HGQ := hide hgq
        have e1 : wr.cell? ⟨G, o + 1, none⟩ = some (.slice (some ⟨gt, 0, none⟩) rect.length ct) := S.bk.cell1
        have e3 : wr.cell? ⟨G, o + 2, none⟩ = some (.slice (some ⟨gx, 0, none⟩) rect.length cx) := S.bk.cell2
        obtain ⟨e2, e4', h3⟩ := S.read k hlt (unhide HRK)
        have e4 := range_one (show wr.rangeAt gx (k * 1) [.string s] from e4')
        clear e4'
        by_cases hin : i < n
        · have hd2 : decide ((i : Int) < (n : Int)) = true := by simp; omega
          have j2 : (i : Int) < (n : Int) := by omega
          obtain ⟨g, hao, hc⟩ := h3 (by omega)
          subst hao
          have e5 := range_one (show wr.rangeAt g (i * 1) [.string s] from hc i hin)
          clear hc h3 S hgq
          go_wp2
          go_quiet (fail)
          go_wp2
          exact ⟨⟨i + 1, by omega, by go_num, grown_trans (unhide HGQ) (drewN_bgrown _ _)⟩, by simp [intOf]; omega⟩
        · have hd2 : decide ((i : Int) < (n : Int)) = false := by simp; omega
          clear S hgq h3
          go_wp2
          exact ⟨⟨k + 1, by omega, by go_num, grown_trans (unhide HGR) (unhide HGQ)⟩, by simp [intOf]; omega⟩
    · have hke : k = rect.length := by omega
      have S := (unhide HS).later (unhide HGR)
      obtain ⟨at1, ct, hdv⟩ := S.head
      have c1 : wr.cell? ⟨G, o + 1, none⟩ = some (.slice at1 rect.length ct) := by rw [← hdv]; exact S.bk.cell1
      have c3 : wr.cell? ⟨G, o + 3, none⟩ = some (.slice none 0 0) := by rw [cell_of_row wr G _ _ _ _ S.bk.1]; exact hd3
      have hd : decide ((k : Int) < (rect.length : Int)) = false := by simp; omega
      have hdk2 := unhide HDK wr (unhide HGR)
      clear S hdv HDK
      go_wp2
      go_loopw [5] (fun v wq => v = .int .i64 0 ∧ wq = wr) (fun _ _ => 0)
      case atStart => exact ⟨rfl, rfl⟩
      case round =>
        obtain ⟨rfl, rfl⟩ := hrel
        go_wp2_with (go_at_call 21; refine hdk2.mono ?_; rintro e wz ⟨rfl, hbz⟩; subst hbz)
        go_ret
        exact ⟨rfl, bel_of_grown (unhide HGR)⟩
end Go.Proofs.Ytanfolfopalbeaa
