import Derived.Test.YtanfolfopalbeaaRefRd
namespace Go.Proofs.Ytanfolfopalbeaa
open Go.RowKit

/-- The front of a slice of strings. -/
theorem Strs.front {w : World} {b off cap n : Nat} {ss : List ByteArray} (h : Strs w (.slice (some ⟨b, off, none⟩) n cap) ss) (k : Nat) (hk : k ≤ n) : Strs w (.slice (some ⟨b, off, none⟩) k cap) (ss.take k) := by
  obtain ⟨ao, cap', he, h1, h2, h3⟩ := h
  simp only [Value.slice.injEq] at he
  obtain ⟨rfl, rfl, rfl⟩ := he
  have hl : (ss.take k).length = k := by rw [List.length_take]; omega
  refine ⟨some ⟨b, off, none⟩, cap, by rw [hl], by omega, h2, ?_⟩
  rcases h3 with rfl | ⟨b', off', he, hc⟩
  · simp
  · simp only [Option.some.injEq, Addr.mk.injEq, and_true] at he
    obtain ⟨rfl, rfl⟩ := he
    refine .inr ⟨b, off, rfl, fun i hi => ?_⟩
    rw [hc i (by omega)]
    simp only [List.getD]
    rw [List.getElem?_take_of_lt (by omega)]
theorem getD_take_le {ss : List ByteArray} {k m : Nat} (h : ∀ i, i < ss.length → (ss.getD i ByteArray.empty).size ≤ m) : ∀ i, i < (ss.take k).length → ((ss.take k).getD i ByteArray.empty).size ≤ m := by
  intro i hi
  rw [List.length_take] at hi
  simp only [List.getD]
  rw [List.getElem?_take_of_lt (by omega)]
  exact h i (by omega)
theorem mk_append (a b : List UInt8) : mk a ++ mk b = mk (a ++ b) := by
  have e : (mk a ++ mk b).data = (mk (a ++ b)).data := by
    apply Array.ext'
    rw [ByteArray.data_append, Array.toList_append]
    rfl
  exact congrArg ByteArray.mk e

set_option maxRecDepth 100000 in
set_option maxHeartbeats 800000 in
theorem rWrite_ok (b off cap : Nat) (ss : List ByteArray) (w : World) (hm : ss.length ≤ 100) (hcap : ss.length ≤ cap) (hsz : ∀ i, i < ss.length → (ss.getD i ByteArray.empty).size ≤ 20)
    (hc : ∀ i, i < ss.length → w.cell? ⟨b, off + i, none⟩ = some (.string (ss.getD i ByteArray.empty))) (hchk : chk ss = 0) (hS : Strs w (.slice (some ⟨b, off, none⟩) ss.length cap) ss) :
    Calls Try.prog 15 #[.slice (some ⟨b, off, none⟩) ss.length cap] w fun e w' => e = .returned (.tuple #[.string (mk (olog 0 (bs ss))), .int .i64 0]) ∧ Below w.heap.size w w' := by
  have HC := hide hc
  have HZ := hide hsz
  have HK := hide hchk
  have HS := hide hS
  clear hc hsz hchk hS
  go_enter Try.func15, Try.ntmps15
  go_wp2_with fail
  refine (may_any _ ss _ (unhide HS)).mono ?_
  rw [unhide HK]
  rintro e w1 ⟨rfl, rfl⟩
  go_wp2
  go_loopw [5, 6] (fun o i wr => ∃ k : Nat, k ≤ ss.length ∧ i = .int .i64 k ∧ o = .string (mk (olog 0 (bs (ss.take k)))) ∧ Below w1.heap.size w1 wr) (fun _ i _ => ss.length - (intOf i).toNat)
  case atStart => exact ⟨0, Nat.zero_le _, rfl, rfl, Below.refl _ _⟩
  case round =>
    obtain ⟨k, hk, rfl, rfl, hbel⟩ := hrel
    by_cases hlt : k < ss.length
    · obtain ⟨s, hs⟩ : ∃ s, s = ss.getD k ByteArray.empty := ⟨_, rfl⟩
      have hck0 := unhide HC k hlt
      have hss := unhide HZ k hlt
      rw [← hs] at hck0 hss
      have HB := hide (bs_take_succ ss k hlt)
      have HO := hide (olog_snoc (bs (ss.take k)) s.data.toList 0)
      have HS2 := hide hs
      clear hs
      have hck : wr.cell? ⟨b, off + k, none⟩ = some (.string s) := by rw [hbel.cell (p := ⟨b, off + k, none⟩) (cell_lt hck0)]; exact hck0
      have HF := hide (((unhide HS).below hbel (Nat.le_refl _)).front k hk)
      have hlen : (olog 0 (bs (ss.take k))).length ≤ 2300 := by
        have := olog_length_le (bs (ss.take k)) (by
          intro e he
          simp only [bs, List.mem_map] at he
          obtain ⟨x, hx, rfl⟩ := he
          obtain ⟨j, hj, rfl⟩ := List.getElem_of_mem hx
          have hjl : j < ss.length := by simp at hj; omega
          have := unhide HZ j hjl
          simpa [List.getD, List.getElem?_eq_getElem hjl] using this) 0
        simp only [bs_length, List.length_take] at this
        omega
      have f1 : (k : Int) < (ss.length : Int) := by omega
      have f2 : (0 : Int) ≤ (k : Int) := by omega
      have f3 : (k : Int) ≤ (cap : Int) := by omega
      have hd1 : decide ((k : Int) < (ss.length : Int)) = true := by simp; omega
      clear hck0
      go_wp2_with fail
      go_region_with (go_at_call 29; refine (frame_ref _ (ss.take k) s _ (by exact unhide HF) (by rw [List.length_take]; omega) (getD_take_le (unhide HZ)) hss).mono ?_; rintro e w2 ⟨rfl, hb2⟩)
      have hs1 : (mk (olog 0 (bs (ss.take k)))).size ≤ 2300 := by rw [mk_size]; exact hlen
      have hs2 : (mk (frm (last 0 (bs (ss.take k))) s.data.toList)).size ≤ 23 := by
        rw [mk_size, frm_length]
        have : s.data.toList.length = s.size := rfl
        omega
      have hb2' : Below wr.heap.size wr w2 := ⟨hb2.os, hb2.tape, hb2.output, hb2.size, hb2.block⟩
      have hbel2 := hbel.trans (hb2'.mono hbel.size)
      have HM := hide (mk_append (olog 0 (bs (ss.take k))) (frm (last 0 (bs (ss.take k))) s.data.toList))
      generalize mk (frm (last 0 (bs (ss.take k))) s.data.toList) = fr at hs2 HM ⊢
      generalize mk (olog 0 (bs (ss.take k))) = o at hs1 HM ⊢
      clear hck hbel hb2 hb2' HF hlen
      go_wp2
      go_roundw
      case rel => exact ⟨k + 1, by omega, by go_num, by rw [unhide HB, ← unhide HS2, unhide HO, unhide HM], hbel2⟩
      case measure => simp [intOf]; omega
    · have hke : ss.take k = ss := List.take_of_length_le (by omega)
      rw [hke]
      have hd1 : decide ((k : Int) < (ss.length : Int)) = false := by simp; omega
      clear hke
      go_wp2
      go_ret2
      exact ⟨rfl, hbel⟩

set_option maxRecDepth 100000 in
set_option maxHeartbeats 400000 in
theorem rWrite_bad (v : Value) (ss : List ByteArray) (w : World) (h : Strs w v ss) (c : Nat) (hc : chk ss = c) (h0 : 0 < c) (h2 : c ≤ 2) :
    Calls Try.prog 15 #[v] w fun e w' => e = .returned (.tuple #[.string ⟨#[]⟩, .int .i64 c]) ∧ Below w.heap.size w w' := by
  have HC := hide hc
  have HS := hide h
  clear hc h
  have hn : ((c : Int) != 0) = true := by simp; omega
  go_enter Try.func15, Try.ntmps15
  go_wp2_with fail
  refine (may_any _ ss _ (unhide HS)).mono ?_
  rw [unhide HC]
  rintro e w1 ⟨rfl, rfl⟩
  go_wp2
  go_ret2
  exact ⟨rfl, Below.refl _ _⟩

set_option maxRecDepth 100000 in
set_option maxHeartbeats 400000 in
theorem rWrite_empty (ao : Option Addr) (cap : Nat) (w : World) (hS : Strs w (.slice ao 0 cap) []) :
    Calls Try.prog 15 #[.slice ao 0 cap] w fun e w' => e = .returned (.tuple #[.string (mk (olog 0 (bs []))), .int .i64 0]) ∧ Below w.heap.size w w' := by
  have HS := hide hS
  clear hS
  go_enter Try.func15, Try.ntmps15
  go_wp2_with fail
  refine (may_any _ [] _ (unhide HS)).mono ?_
  rw [show chk [] = 0 from rfl]
  rintro e w1 ⟨rfl, rfl⟩
  go_wp2
  refine wp_loop_rounds 1 ?_
  rw [rounds_succ]
  go_wp2
  go_ret2
  exact ⟨rfl, Below.refl _ _⟩
theorem rWrite_any (v : Value) (ss : List ByteArray) (w : World) (h : Strs w v ss) :
    Calls Try.prog 15 #[v] w fun e w' => e = .returned (.tuple #[.string (wrText ss), .int .i64 (chk ss)]) ∧ Below w.heap.size w w' := by
  by_cases h0 : chk ss = 0
  · have hz := chk_zero ss h0
    unfold wrText
    rw [if_pos h0, h0]
    have hS := h
    obtain ⟨ao, cap, rfl, h1, h2, h3⟩ := h
    rcases h3 with rfl | ⟨b, off, rfl, hc⟩
    · exact rWrite_empty ao cap w hS
    · exact rWrite_ok b off cap ss w hz.1 h1 hz.2 hc h0 hS
  · have hc := chk_cases ss
    unfold wrText
    rw [if_neg h0]
    exact rWrite_bad v ss w h (chk ss) rfl (by omega) (by omega)
end Go.Proofs.Ytanfolfopalbeaa
