/- The reference's OldProve and OldVerify: the contracts. -/
import Derived.Test.YtanfolfopalbeaaRef
import Derived.Test.YtanfolfopalbeaaOldPrv
namespace Go.Proofs.Ytanfolfopalbeaa
open Go.RowKit

/-- The end of a slice of strings. -/
theorem Strs.tailF {w : World} {b off cap n : Nat} {ss : List ByteArray} (h : Strs w (.slice (some ⟨b, off, none⟩) n cap) ss) (k : Nat) (hk : k ≤ n) : Strs w (.slice (if cap = k then some ⟨b, off, none⟩ else some ⟨b, off + k, none⟩) (n - k) (cap - k)) (ss.drop k) := by
  obtain ⟨ao, cap', he, h1, h2, h3⟩ := h
  simp only [Value.slice.injEq] at he
  obtain ⟨rfl, rfl, rfl⟩ := he
  have hl : (ss.drop k).length = ss.length - k := List.length_drop
  refine ⟨_, cap - k, by rw [hl], by omega, by omega, ?_⟩
  rcases h3 with rfl | ⟨b', off', he, hc⟩
  · simp
  · simp only [Option.some.injEq, Addr.mk.injEq, and_true] at he
    obtain ⟨rfl, rfl⟩ := he
    by_cases hc2 : cap = k
    · left
      exact List.eq_nil_of_length_eq_zero (by omega)
    · right
      rw [if_neg hc2]
      refine ⟨b, off + k, rfl, fun i hi => ?_⟩
      rw [Nat.add_assoc, hc (k + i) (by omega)]
      simp only [List.getD]
      rw [List.getElem?_drop]

set_option maxRecDepth 100000 in
set_option maxHeartbeats 800000 in
theorem rOldProve_any (v : Value) (ss : List ByteArray) (i : Int) (w : World) (hi : -9223372036854775808 ≤ i ∧ i ≤ 9223372036854775807) (h : Strs w v ss) :
    Calls Try.prog 23 #[v, .int .i64 i] w fun e w' => ∃ v', e = .returned (.tuple #[.agg #[.int .u16 (opR ss i).1, v'], .int .i64 (opR ss i).2.2]) ∧ Strs w' v' (opR ss i).2.1 ∧ Below w.heap.size w w' := by
  have hb0 : Below w.heap.size w (w.alloc (.cells #[.int .u16 0, .slice none 0 0] 44)) := (Below.refl _ _).alloc (Nat.le_refl _) _
  have HS := hide (h.below hb0 (Nat.le_refl _))
  have HB0 := hide hb0
  have hck := fun wq hs => may_any v ss wq hs
  have HS0 := hide h
  have hnil : ∀ wq, Strs wq (.slice none 0 0) [] := fun wq => ⟨none, 0, rfl, Nat.le_refl _, Nat.zero_le _, .inl rfl⟩
  clear h hb0
  by_cases hc0 : chk ss = 0
  · obtain ⟨hl100, hz20⟩ := chk_fits hc0
    rw [hc0] at hck
    obtain ⟨ao, cap, rfl, hl1, hl2, h3⟩ := unhide HS0
    unfold maxLen at hl2
    by_cases h1 : i < 0
    · have HP := hide (show opR ss i = (0, [], 5) by
        have : chkI ss i = 5 := by unfold chkI; rw [if_neg (by omega), if_pos (.inl h1)]
        unfold opR; rw [this, if_pos (by decide)])
      rw [unhide HP]
      have hd : decide (i < 0) = true := by simp; omega
      clear hc0 h3
      go_enter Try.func23, Try.ntmps23
      go_wp2_with fail
      refine (hck _ (unhide HS)).mono ?_
      rintro e w1 ⟨rfl, rfl⟩
      go_wp2
      refine bodyPost_ret (v := .tuple #[.agg #[.int .u16 0, .slice none 0 0], .int .i64 5]) ?_ rfl ⟨_, rfl, hnil _, unhide HB0⟩
      exact results_opf Try.results23 _ _ w.heap.size 44 _ (0, 0) _ rfl (heap_alloc_new _ _) Try.underlying44 rfl info_opf
    have hd : decide (i < 0) = false := by simp; omega
    by_cases h2 : (ss.length : Int) ≤ i
    · have HP := hide (show opR ss i = (0, [], 5) by
        have : chkI ss i = 5 := by unfold chkI; rw [if_neg (by omega), if_pos (.inr h2)]
        unfold opR; rw [this, if_pos (by decide)])
      rw [unhide HP]
      have hd2 : decide ((ss.length : Int) ≤ i) = true := by simp; omega
      clear hc0 h3
      go_enter Try.func23, Try.ntmps23
      go_wp2_with fail
      refine (hck _ (unhide HS)).mono ?_
      rintro e w1 ⟨rfl, rfl⟩
      go_wp2
      refine bodyPost_ret (v := .tuple #[.agg #[.int .u16 0, .slice none 0 0], .int .i64 5]) ?_ rfl ⟨_, rfl, hnil _, unhide HB0⟩
      exact results_opf Try.results23 _ _ w.heap.size 44 _ (0, 0) _ rfl (heap_alloc_new _ _) Try.underlying44 rfl info_opf
    have hd2 : decide ((ss.length : Int) ≤ i) = false := by simp; omega
    have hcI : chkI ss i = 0 := by unfold chkI; rw [if_neg (by omega), if_neg (by omega)]
    obtain ⟨j, rfl⟩ : ∃ j : Nat, i = (j : Int) := ⟨i.toNat, by omega⟩
    have hj : j < ss.length := by omega
    have HP := hide (show opR ss j = (last 0 (bs (ss.take j)), ss.drop (j + 1), 0) by unfold opR; rw [if_neg (by omega), Int.toNat_natCast])
    rw [unhide HP]
    have htl : (ss.take j).length = j := by rw [List.length_take]; omega
    rcases h3 with rfl | ⟨b, off, rfl, hcc⟩
    · cases hj
    have hll := fun wq hs => head_any (.slice (some ⟨b, off, none⟩) j cap) (ss.take j) wq hs (by omega) (fun k hk => Nat.le_trans (take_size hz20 k hk) (by decide))
    generalize hLE : last 0 (bs (ss.take j)) = L at hll ⊢
    clear hLE hcc hcI hc0 hz20 HP
    by_cases hcj : cap = j + 1
    · subst hcj
      go_enter Try.func23, Try.ntmps23
      go_wp2_with fail
      refine (hck _ (unhide HS)).mono ?_
      rintro e w1 ⟨rfl, rfl⟩
      have S1 := hide ((unhide HS).cutF j (by omega))
      go_wp2_with fail
      refine (hll _ (unhide S1)).mono ?_
      rintro e w2 ⟨rfl, hb2⟩
      have hsz0 : (w.alloc (.cells #[.int .u16 0, .slice none 0 0] 44)).heap.size = w.heap.size + 1 := by simp
      have V1 := hide (show w2.heap[w.heap.size]? = some (.cells #[.int .u16 0, .slice none 0 0] 44 (0, 0)) from (hb2.block _ (by omega)).trans (heap_alloc_new _ _))
      have hbel2 := (unhide HB0).trans (hb2.mono (by omega))
      clear hb2 S1 hck hll
      go_wp2_with ((with_reducible refine at_store ?_); go_must (refine wpList_store_row rfl 44 _ _ rfl w.heap.size _ rfl rfl 44 _ (unhide V1) info_opf rfl (opf_one _ _ _ _) ?_))
      have hbel3 := below_rowO hbel2 (Nat.le_refl _) #[.int .u16 (L : Int), .slice (some ⟨b, off, none⟩) 0 0]
      refine bodyPost_ret (v := .tuple #[.agg #[.int .u16 (L : Int), .slice (some ⟨b, off, none⟩) 0 0], .int .i64 0]) ?_ rfl ⟨_, rfl, ?_, hbel3⟩
      · exact results_opf Try.results23 _ _ w.heap.size 44 _ (0, 0) _ rfl (setRow_heap _ _ _ _ _ _ (unhide V1)) Try.underlying44 rfl info_opf
      · rw [List.drop_of_length_le (by omega)]
        exact ⟨_, 0, rfl, Nat.le_refl _, Nat.zero_le _, .inl rfl⟩
    · have hn := (unhide HS0).tailF (j + 1) (by omega)
      rw [if_neg hcj] at hn
      have HN := hide hn
      clear hn
      go_enter Try.func23, Try.ntmps23
      go_wp2_with fail
      refine (hck _ (unhide HS)).mono ?_
      rintro e w1 ⟨rfl, rfl⟩
      have S1 := hide ((unhide HS).cutF j (by omega))
      go_wp2_with fail
      refine (hll _ (unhide S1)).mono ?_
      rintro e w2 ⟨rfl, hb2⟩
      have hsz0 : (w.alloc (.cells #[.int .u16 0, .slice none 0 0] 44)).heap.size = w.heap.size + 1 := by simp
      have V1 := hide (show w2.heap[w.heap.size]? = some (.cells #[.int .u16 0, .slice none 0 0] 44 (0, 0)) from (hb2.block _ (by omega)).trans (heap_alloc_new _ _))
      have hbel2 := (unhide HB0).trans (hb2.mono (by omega))
      clear hb2 S1 hck hll
      go_wp2_with ((with_reducible refine at_store ?_); go_must (refine wpList_store_row rfl 44 _ _ rfl w.heap.size _ rfl rfl 44 _ (unhide V1) info_opf rfl (opf_one _ _ _ _) ?_))
      have hbel3 := below_rowO hbel2 (Nat.le_refl _) #[.int .u16 (L : Int), .slice (some ⟨b, off + (j + 1), none⟩) (ss.length - (j + 1)) (cap - (j + 1))]
      refine bodyPost_ret (v := .tuple #[.agg #[.int .u16 (L : Int), .slice (some ⟨b, off + (j + 1), none⟩) (ss.length - (j + 1)) (cap - (j + 1))], .int .i64 0]) ?_ rfl ⟨_, rfl, ?_, hbel3⟩
      · exact results_opf Try.results23 _ _ w.heap.size 44 _ (0, 0) _ rfl (setRow_heap _ _ _ _ _ _ (unhide V1)) Try.underlying44 rfl info_opf
      · exact (unhide HN).below hbel3 (Nat.le_refl _)
  · have hle : chk ss ≤ 2 := by
      unfold chk
      split
      · omega
      · split <;> omega
    have HP := hide (show opR ss i = (0, [], chk ss) by
      have : chkI ss i = chk ss := by unfold chkI; rw [if_pos hc0]
      unfold opR; rw [this, if_pos hc0])
    rw [unhide HP]
    generalize chk ss = c at hc0 hle hck ⊢
    have hne : ((c : Int) != 0) = true := by rw [bne_iff_ne]; omega
    go_enter Try.func23, Try.ntmps23
    go_wp2_with fail
    refine (hck _ (unhide HS)).mono ?_
    rintro e w1 ⟨rfl, rfl⟩
    go_wp2
    refine bodyPost_ret (v := .tuple #[.agg #[.int .u16 0, .slice none 0 0], .int .i64 c]) ?_ rfl ⟨_, rfl, hnil _, unhide HB0⟩
    exact results_opf Try.results23 _ _ w.heap.size 44 _ (0, 0) _ rfl (heap_alloc_new _ _) Try.underlying44 rfl info_opf

set_option maxRecDepth 100000 in
set_option maxHeartbeats 800000 in
theorem rOldVerify_any (head before : Nat) (n i : Int) (entry : ByteArray) (v : Value) (rest : List ByteArray) (w : World) (hbf : before < 65536) (hn : -9223372036854775808 ≤ n ∧ n ≤ 9223372036854775807) (hi : -9223372036854775808 ≤ i ∧ i ≤ 9223372036854775807)
    (he : entry.size ≤ 140737488351232) (h : Strs w v rest) (hm : rest.length * 16 ≤ 140737488351232) (hz : ∀ i, i < rest.length → (rest.getD i ByteArray.empty).size ≤ 140737488351232) :
    Calls Try.prog 12 #[.int .u16 head, .int .i64 n, .int .i64 i, .string entry, .agg #[.int .u16 before, v]] w fun e w' => e = .returned (.bool (ovR head n i entry before rest)) ∧ Below w.heap.size w w' := by
  have hb0 : Below w.heap.size w (w.alloc (.cells #[.int .u16 (before : Int), v] 44)) := (Below.refl _ _).alloc (Nat.le_refl _) _
  have HS := hide (h.below hb0 (Nat.le_refl _))
  have HZ := hide hz
  have HB0 := hide hb0
  obtain ⟨ao, cap, rfl, hl1, hl2, _⟩ := h
  unfold maxLen at hl2
  clear hz hb0
  by_cases h1 : i < 0
  · have HP := hide (show ovR head n i entry before rest = false by unfold ovR; rw [if_pos (.inl h1)])
    rw [unhide HP]
    have hd : decide (i < 0) = true := by simp; omega
    go_enter Try.func12, Try.ntmps12
    go_wp2
    go_ret
    exact ⟨rfl, unhide HB0⟩
  have hd : decide (i < 0) = false := by simp; omega
  by_cases h2 : n ≤ i
  · have HP := hide (show ovR head n i entry before rest = false by unfold ovR; rw [if_pos (.inr (.inl h2))])
    rw [unhide HP]
    have hd2 : decide (n ≤ i) = true := by simp; omega
    go_enter Try.func12, Try.ntmps12
    go_wp2
    go_ret
    exact ⟨rfl, unhide HB0⟩
  have hd2 : decide (n ≤ i) = false := by simp; omega
  by_cases h3 : (rest.length : Int) = n - 1 - i
  · have HP := hide (show ovR head n i entry before rest = decide (last (lnk before entry.data.toList) (bs rest) = head) by unfold ovR; rw [if_neg (by omega)])
    rw [unhide HP]
    have hd3 : ((rest.length : Int) != n - 1 - i) = false := by rw [bne_eq_false_iff_eq]; exact h3
    have hlt := lnk_lt before entry.data.toList
    have HLK := hide (show wk (two before ++ entry.data.toList) = lnk before entry.data.toList from rfl)
    generalize lnk before entry.data.toList = l1 at hlt HP HLK ⊢
    have hll := fun wq hs => texts_any l1 (.slice ao rest.length cap) rest wq hs hlt hm (unhide HZ)
    generalize last l1 (bs rest) = l2 at hll HP ⊢
    have hde : ((l2 : Int) == (head : Int)) = decide (l2 = head) := by
      by_cases hq : l2 = head
      · subst hq; simp
      · rw [decide_eq_false hq, beq_eq_false_iff_ne]; omega
    have hz2 : (two before).length = 2 := rfl
    go_enter Try.func12, Try.ntmps12
    go_wp2_with fail
    refine (pair_any before _ hbf).mono ?_
    rintro e w1 ⟨rfl, hb1⟩
    have hbel1 := (unhide HB0).trans (hb1.mono (unhide HB0).size)
    have c1 : w1.cell? ⟨w.heap.size, 1, none⟩ = some (.slice ao rest.length cap) := by
      rw [hb1.cell (p := ⟨w.heap.size, 1, none⟩) (by simp)]
      simp
    have S1 := hide ((unhide HS).below hb1 (Nat.le_refl _))
    clear hb1 HS
    go_wp2_with fail
    refine (rOld_any _ _ (by unfold maxLen; rw [ByteArray.size_append, two_size]; omega)).mono ?_
    rw [show (ByteArray.mk (two before).toArray ++ entry).data.toList = two before ++ entry.data.toList by simp, unhide HLK]
    rintro e w2 ⟨rfl, rfl⟩
    go_wp2_with fail
    refine (hll _ (unhide S1)).mono ?_
    rintro e w2 ⟨v2, rfl, _, hb2⟩
    have hbel2 := hbel1.trans (hb2.mono hbel1.size)
    go_wp2
    go_ret
    exact ⟨rfl, hbel2⟩
  · have HP := hide (show ovR head n i entry before rest = false by unfold ovR; rw [if_pos (.inr (.inr h3))])
    rw [unhide HP]
    have hd3 : ((rest.length : Int) != n - 1 - i) = true := by rw [bne_iff_ne]; exact h3
    go_enter Try.func12, Try.ntmps12
    go_wp2
    go_ret
    exact ⟨rfl, unhide HB0⟩
end Go.Proofs.Ytanfolfopalbeaa
