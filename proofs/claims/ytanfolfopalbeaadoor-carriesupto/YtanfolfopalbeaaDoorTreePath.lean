/- The path of an entry. -/
import Derived.Test.YtanfolfopalbeaaDoorTreeRoot2
import Derived.Test.YtanfolfopalbeaaDoorGrown
namespace Go.Proofs.YtanfolfopalbeaaDoor
open Go.RowKit

/-- The cells of a list of digests. -/
def dcells (p : List (List UInt8)) : List Value := p.flatMap bcells
theorem dcells_snoc (p : List (List UInt8)) (d : List UInt8) : dcells (p ++ [d]) = dcells p ++ bcells d := by simp [dcells]
theorem own_keep {w w' : World} {B : Nat} {e : TypeId} {s : Nat} {v : Value} {n : Nat} {xs : List Value} (h : w.ownsRow B e s v n xs) (hb : Below w.heap.size w w') : w'.ownsRow B e s v n xs :=
  h.kept (row := none) ⟨hb.os, hb.tape, hb.output, hb.size, fun k hk _ => hb.block k hk⟩ (by cases v.ownBlock with | none => exact .inl rfl | some g => exact .inr (by simp))
theorem info_dig : (Tryd.prog.info? 31).map (fun i => (i.zero, i.size, i.bytes)) = some (some (.agg (bcells z32).toArray), 32, 32) := by kernel_rfl

theorem fold_set : ∀ (l : List Value) (k : Nat) (cs : Array Value) (pre tail : List Value), cs.toList = pre ++ tail → pre.length = k → tail.length = l.length →
    (List.foldl (fun (cs : Array Value) (x : Value × Nat) => cs.setIfInBounds x.snd x.fst) cs (l.zipIdx k)).toList = pre ++ l := by
  intro l
  induction l with
  | nil =>
    intro k cs pre tail h _ ht
    have : tail = [] := List.length_eq_zero_iff.1 ht
    subst this
    simpa using h
  | cons x l ih =>
    intro k cs pre tail h hk ht
    cases tail with
    | nil => cases ht
    | cons y tail =>
      rw [List.zipIdx_cons, List.foldl_cons]
      have := ih (k + 1) (cs.setIfInBounds k x) (pre ++ [x]) tail (by
        rw [Array.toList_setIfInBounds, h, ← hk, List.set_append_right _ _ (Nat.le_refl _), Nat.sub_self]
        simp) (by simp [hk]) (by simpa using ht)
      rw [this]
      simp
/-- The row of a list of one digest, as it is built. -/
theorem fold_dig (d : List UInt8) (h : d.length = 32) : List.foldl (fun (cs : Array Value) (x : Value × Nat) => cs.setIfInBounds x.snd x.fst) (bcells z32).toArray (bcells d).zipIdx = (bcells d).toArray := by
  apply Array.ext'
  have := fold_set (bcells d) 0 (bcells z32).toArray [] (bcells z32) (by simp) rfl (by simp [bcells, h, z32])
  rw [this]
  simp
theorem bcells_news (d : List UInt8) (h : d.length = 32) : (bcells d).length = 1 * 32 := by simp [bcells, h]
theorem bcells_one' (d : List UInt8) : ∀ u ∈ bcells d, u.oneCell' = true := by
  intro u hu
  simp only [bcells, List.mem_map] at hu
  obtain ⟨n, _, rfl⟩ := hu
  rfl
theorem add_none (b off i : Nat) : (⟨b, off, none⟩ : Addr).add i = ⟨b, off + i, none⟩ := by
  unfold Addr.add
  split <;> simp_all
theorem news_new (w : World) (d : List UInt8) (t : TypeId) (g : Nat) (hg : w.heap.size = g) : ∀ j u, (bcells d)[j]? = some u → (w.alloc (.cells (bcells d).toArray t)).cell? ((⟨g, 0, none⟩ : Addr).add j) = some u := by
  intro j u hu
  subst hg
  rw [add_none, Nat.zero_add, cell_of_row _ w.heap.size j _ _ _ (heap_alloc_new w _)]
  simpa using hu

set_option maxRecDepth 100000 in
set_option maxHeartbeats 400000 in
theorem pathOf_one (ao : Option Addr) (n cap : Nat) (i : Nat) (w : World) (hn : n ≤ 1) :
    Calls Tryd.prog 105 #[.slice ao n cap, .int .i64 i] w fun e w' => e = .returned (.slice none 0 0) ∧ w' = w := by
  have hd : decide ((n : Int) ≤ 1) = true := by simp; omega
  go_enter Tryd.func105, Tryd.ntmps105
  go_wp2
  go_ret
  exact ⟨rfl, rfl⟩

set_option maxRecDepth 100000 in
set_option maxHeartbeats 1600000 in
theorem pathOf_any (k : Nat) : ∀ (v : Value) (ss : List ByteArray) (i : Nat) (w : World), ss.length ≤ k → ss.length ≤ 100 → i < ss.length → (∀ s ∈ ss, s.size ≤ 20) → Strs w v ss → Tabs w →
    Calls Tryd.prog 105 #[v, .int .i64 i] w fun e w' => ∃ v', e = .returned v' ∧ w'.ownsRow w.heap.size 31 32 v' (pathL ss i).length (dcells (pathL ss i)) ∧ Below w.heap.size w w' := by
  obtain ⟨i0, hi, hz0, hz1, hz2⟩ := info_parts info_dig
  induction k with
  | zero => intro v ss i w hk _ hi; omega
  | succ k ih =>
    intro v ss i w hk hm hil hz hS hT
    by_cases h1 : ss.length ≤ 1
    · obtain ⟨ao, cap, rfl, _⟩ := hS
      rw [pathL_one ss i (by omega)]
      refine (pathOf_one ao ss.length cap i w h1).mono ?_
      rintro e w' ⟨rfl, rfl⟩
      exact ⟨_, rfl, World.ownsRow_nil _ _ _ _, Below.refl _ _⟩
    · obtain ⟨b, off, cap, hv, hcap⟩ := strs_shape hS (by intro h; rw [h] at hil; cases hil)
      subst hv
      have hh1 := half_lt ss.length (by omega)
      have hh2 := half_pos ss.length
      have htl : (ss.take (half ss.length)).length = half ss.length := by rw [List.length_take]; omega
      have hdl : (ss.drop (half ss.length)).length = ss.length - half ss.length := List.length_drop
      have hF := fun wq => first_any ss.length wq (by omega)
      have HT := hide hT
      have hc1 : decide ((ss.length : Int) ≤ 1) = false := by simp; omega
      have S1 := hide (fun wq hb => (hS.below (w' := wq) (B := w.heap.size) hb (Nat.le_refl _)).front (half ss.length) (by omega))
      have S2 := hide (fun wq hb => (hS.below (w' := wq) (B := w.heap.size) hb (Nat.le_refl _)).back (half ss.length) (by omega))
      by_cases hlt : i < half ss.length
      · have hA := fun wq hs ht => ih (.slice (some ⟨b, off, none⟩) (half ss.length) cap) (ss.take (half ss.length)) i wq (by omega) (by omega) (by omega) (fun s h => hz s (List.mem_of_mem_take h)) hs ht
        have hB := fun wq hs ht => rootOf_any 100 (.slice (some ⟨b, off + half ss.length, none⟩) (ss.length - half ss.length) (cap - half ss.length)) (ss.drop (half ss.length)) wq (by omega) (by omega) (fun s h => hz s (List.mem_of_mem_drop h)) hs ht
        have db := rootL_length (ss.drop (half ss.length))
        have hpl : (pathL (ss.take (half ss.length)) i).length ≤ 7 := by
          rw [pathL_length _ _ i (Nat.le_refl _) (by omega), htl]
          exact path_small 7 _ i (by omega)
        rw [pathL_left ss i (by omega) hlt]
        generalize pathL (ss.take (half ss.length)) i = pA at hA hpl ⊢
        generalize rootL (ss.drop (half ss.length)) = dB at hB db ⊢
        generalize half ss.length = m at hF hA hB S1 S2 hh1 hh2 hlt
        have VB := hide (v_dg dB db)
        have ZB := hide (v_z32 dB db)
        have f0 : decide ((i : Int) < (m : Int)) = true := by simp; omega
        have f1 : (m : Int) ≤ (cap : Int) := by omega
        have f2 : (m : Int) ≤ (ss.length : Int) := by omega
        have HA := hide hA
        have HB := hide hB
        clear hA hB htl hdl hS hT hz ih
        go_enter Tryd.func105, Tryd.ntmps105
        go_wp2_with fail
        refine (hF _).mono ?_
        rintro e w1 ⟨rfl, rfl⟩
        go_wp2_with fail
        refine (unhide HA _ (unhide S1 _ (Below.refl _ _)) (unhide HT)).mono ?_
        rintro e w2 ⟨v2, rfl, hown2, hb2⟩
        go_wp2_with fail
        refine (unhide HB _ (unhide S2 _ hb2) ((unhide HT).below hb2 (Nat.le_refl _))).mono ?_
        rintro e w3 ⟨rfl, hb3⟩
        have hbel3 := hb2.trans (hb3.mono hb2.size)
        have O3 := hide (own_keep hown2 hb3)
        have hcl : (bcells dB).length = 32 := by simp [bcells, db]
        clear hb3 hb2 HA HB S1 S2 HT hF hown2
        go_wp2_with (first | ((with_reducible refine at_store ?_); refine wpList_store_row rfl 31 _ _ rfl w3.heap.size (bcells dB).toArray rfl rfl 31 _ (heap_alloc_new w3 _) (unhide VB) (unhide ZB) (bcells_one dB) ?_) | ((with_reducible refine at_load ?_); refine wpList_load_row rfl 31 _ rfl w3.heap.size (by rfl) 31 (bcells dB).toArray (0, 0) _ (heap_put_new w3 _ _ _) Tryd.underlying31 rfl (unhide VB) ?_) | (at_builtin; rw [← z32_cells, fold_dig dB db]; go_must (refine wpList_append_own _ rfl (.tmp 28) (.tmp 30) 50 rfl w1.heap.size 31 i0 (.agg (bcells z32).toArray) 32 32 Tryd.underlying50 hi hz0 hz1 hz2 rfl (by decide) _ _ _ rfl ((own_keep (unhide O3) (below_put w3 _ _ _)).alloc _) ⟨w3.heap.size + 1, 0, none⟩ 1 1 (bcells dB) rfl (bcells_news dB db) ?c2 (bcells_one' dB) ?c3 ?c4 ?c5 ?_)))
        case c2 => exact news_new _ dB _ _ (by simp [World.setRow])
        case c3 => unfold maxLen; omega
        case c4 => omega
        case c5 => simp [World.setRow]; have := hbel3.size; omega
        intro v4 w4 hown4 hgrow4 _
        have hbel4 : Below w1.heap.size w1 w4 := ((below_row (hbel3.alloc hbel3.size _) hbel3.size _).alloc (by simp [World.setRow]; have := hbel3.size; omega) _).grown hgrow4 (by simp [World.setRow]; have := hbel3.size; omega) (own_row_ge (unhide O3))
        have hown5 : w4.ownsRow w1.heap.size 31 32 v4 (pA ++ [dB]).length (dcells (pA ++ [dB])) := by rw [dcells_snoc, List.length_append]; exact hown4
        clear hgrow4 hown4 O3
        go_wp2
        go_ret
        exact ⟨_, rfl, hown5, hbel4⟩
      · have hA := fun wq hs ht => ih (.slice (some ⟨b, off + half ss.length, none⟩) (ss.length - half ss.length) (cap - half ss.length)) (ss.drop (half ss.length)) (i - half ss.length) wq (by omega) (by omega) (by omega) (fun s h => hz s (List.mem_of_mem_drop h)) hs ht
        have hB := fun wq hs ht => rootOf_any 100 (.slice (some ⟨b, off, none⟩) (half ss.length) cap) (ss.take (half ss.length)) wq (by omega) (by omega) (fun s h => hz s (List.mem_of_mem_take h)) hs ht
        have db := rootL_length (ss.take (half ss.length))
        have hpl : (pathL (ss.drop (half ss.length)) (i - half ss.length)).length ≤ 7 := by
          rw [pathL_length _ _ (i - half ss.length) (Nat.le_refl _) (by omega), hdl]
          exact path_small 7 _ _ (by omega)
        rw [pathL_right ss i (by omega) hlt]
        generalize pathL (ss.drop (half ss.length)) (i - half ss.length) = pA at hA hpl ⊢
        generalize rootL (ss.take (half ss.length)) = dB at hB db ⊢
        generalize half ss.length = m at hF hA hB S1 S2 hh1 hh2 hlt
        have VB := hide (v_dg dB db)
        have ZB := hide (v_z32 dB db)
        have f0 : decide ((i : Int) < (m : Int)) = false := by simp; omega
        have f1 : (m : Int) ≤ (cap : Int) := by omega
        have f2 : (m : Int) ≤ (ss.length : Int) := by omega
        rw [show ((i - m : Nat) : Int) = (i : Int) - (m : Int) by omega] at hA
        have HA := hide hA
        have HB := hide hB
        clear hA hB htl hdl hS hT hz ih
        go_enter Tryd.func105, Tryd.ntmps105
        go_wp2_with fail
        refine (hF _).mono ?_
        rintro e w1 ⟨rfl, rfl⟩
        go_wp2_with fail
        refine (unhide HA _ (unhide S2 _ (Below.refl _ _)) (unhide HT)).mono ?_
        rintro e w2 ⟨v2, rfl, hown2, hb2⟩
        go_wp2_with fail
        refine (unhide HB _ (unhide S1 _ hb2) ((unhide HT).below hb2 (Nat.le_refl _))).mono ?_
        rintro e w3 ⟨rfl, hb3⟩
        have hbel3 := hb2.trans (hb3.mono hb2.size)
        have O3 := hide (own_keep hown2 hb3)
        have hcl : (bcells dB).length = 32 := by simp [bcells, db]
        clear hb3 hb2 HA HB S1 S2 HT hF hown2
        go_wp2_with (first | ((with_reducible refine at_store ?_); refine wpList_store_row rfl 31 _ _ rfl w3.heap.size (bcells dB).toArray rfl rfl 31 _ (heap_alloc_new w3 _) (unhide VB) (unhide ZB) (bcells_one dB) ?_) | ((with_reducible refine at_load ?_); refine wpList_load_row rfl 31 _ rfl w3.heap.size (by rfl) 31 (bcells dB).toArray (0, 0) _ (heap_put_new w3 _ _ _) Tryd.underlying31 rfl (unhide VB) ?_) | (at_builtin; rw [← z32_cells, fold_dig dB db]; go_must (refine wpList_append_own _ rfl (.tmp 43) (.tmp 45) 50 rfl w1.heap.size 31 i0 (.agg (bcells z32).toArray) 32 32 Tryd.underlying50 hi hz0 hz1 hz2 rfl (by decide) _ _ _ rfl ((own_keep (unhide O3) (below_put w3 _ _ _)).alloc _) ⟨w3.heap.size + 1, 0, none⟩ 1 1 (bcells dB) rfl (bcells_news dB db) ?d2 (bcells_one' dB) ?d3 ?d4 ?d5 ?_)))
        case d2 => exact news_new _ dB _ _ (by simp [World.setRow])
        case d3 => unfold maxLen; omega
        case d4 => omega
        case d5 => simp [World.setRow]; have := hbel3.size; omega
        intro v4 w4 hown4 hgrow4 _
        have hbel4 : Below w1.heap.size w1 w4 := ((below_row (hbel3.alloc hbel3.size _) hbel3.size _).alloc (by simp [World.setRow]; have := hbel3.size; omega) _).grown hgrow4 (by simp [World.setRow]; have := hbel3.size; omega) (own_row_ge (unhide O3))
        have hown5 : w4.ownsRow w1.heap.size 31 32 v4 (pA ++ [dB]).length (dcells (pA ++ [dB])) := by rw [dcells_snoc, List.length_append]; exact hown4
        clear hgrow4 hown4 O3
        go_wp2
        go_ret
        exact ⟨_, rfl, hown5, hbel4⟩
end Go.Proofs.YtanfolfopalbeaaDoor
