/- The book takes disks: the contract. -/
import Derived.Test.YtanfolfopalbeaaDoorBookG2
import Derived.Test.YtanfolfopalbeaaDoorCarry5
namespace Go.Proofs.YtanfolfopalbeaaDoor
open Go.RowKit

/-- The kind of disks. -/
def Ks (ty : TypeId) (o : Nat) : Kd := ⟨ty, 52, 126, 32, o + 5, o + 6⟩
theorem info_secs : (Tryd.prog.info? 52).map (fun i => (i.zero, i.size, i.bytes)) = some (some (.slice none 0 0), 1, 24) := by kernel_rfl
theorem fold_row32 (y : List Value) (h : y.length = 32) : List.foldl (fun (cs : Array Value) (x : Value × Nat) => cs.setIfInBounds x.snd x.fst) (bcells z32).toArray y.zipIdx = y.toArray := by
  apply Array.ext'
  have := fold_set y 0 (bcells z32).toArray [] (bcells z32) (by simp) rfl (by rw [h]; rfl)
  rw [this]
  simp

/-- A mark of this kind. -/
def Ms (m : List Value) : Prop := ∃ d : List UInt8, d.length = 32 ∧ m = bcells d
set_option maxRecDepth 100000 in
set_option maxHeartbeats 3200000 in
theorem bKs_any (ty : TypeId) (o : Nat) (P : Nat → Prop) (B G n : Nat) (cs : Array Value) (tv xv : Value) (w0 w : World) (recs : List (Value × List Value)) (lv : Value) (nl : Nat) (ls : List (List Value)) (S : StG (Ks ty o) P B w0 w G cs tv xv (recs.map (·.1)) (recs.map (·.2)) recs lv nl ls)
    (hn : cs[o]? = some (.int .i64 (n : Int))) (hb : n ≤ 1099511627776) (hnl : nl ≤ 1000) (hll : ls.length = nl) (hl32 : ∀ d ∈ ls, d.length = 32) (hrl : recs.length ≤ 1099511627776) (hnew : ∀ r ∈ recs, ∀ g, lv.ownBlock = some g → r.1.ownBlock ≠ some g) (hmk0 : Marked Ms P recs) :
    Calls Tryd.prog 71 #[.pointer (some ⟨G, o, none⟩), lv] w fun e w' => ∃ cs' tv' xv' recs', StG (Ks ty o) P B w0 w' G cs' tv' xv' (recs'.map (·.1)) (recs'.map (·.2)) recs' (.slice none 0 0) 0 [] ∧ Marked Ms P recs' ∧ recs'.length = recs.length + 4 ∧ CsK (Ks ty o) o cs cs' (n + 1) ∧ e = .returned (.tuple #[]) := by
  have hmk := markO_any G o cs ty n w S.bk.1 hn hb
  obtain ⟨iS, hiS, hzS0, hzS1, hzS2⟩ := info_parts info_secs
  obtain ⟨i0, hi0, hz0, hz1, hz2⟩ := info_parts info_sec
  have HS := hide S
  have HM0 := hide hmk0
  clear S hmk0
  obtain ⟨ao, cap, rfl⟩ := own_shape (unhide HS).hl
  go_enter Tryd.func71, Tryd.ntmps71
  go_wp2_with fail
  refine hmk.mono ?_
  rintro e w1 ⟨tb, htb, rfl, hB1, hg1⟩
  have S1 := (unhide HS).count hg1 ((unhide HS).bk.num hB1 (by simp [Ks]) (by simp [Ks]))
  have HCS0 := hide (CsK.start (K := Ks ty o) (n := n + 1) hn)
  generalize cs.setIfInBounds o (.int .i64 ((n + 1 : Nat) : Int)) = cs1 at S1 HCS0
  have hG1 := S1.bk.lt
  have hd1 := fun k h => (S1.ht.lt k h).2
  have he1 := fun k h => (S1.hx.lt k h).2
  have hl1 := fun k h => (S1.hl.lt k h).2
  have t0 : (bcells tb).length = 32 := by rw [bcells_length, htb]
  have K1 := hide (v_sc tb htb)
  have K2 := hide (v_z32 tb htb)
  have K3 := hide (bcells_one tb)
  have KM := hide (v_scm tb htb)
  have HONE := hide (bcells_one' tb)
  have HMT := hide (show Ms (bcells tb) from ⟨tb, htb, rfl⟩)
  generalize bcells tb = t at *
  have ht : t.length = 32 := t0
  clear t0 htb
  have HFD := hide (fold_row32 t ht)
  have hrow : ((w1.alloc (.cells (bcells z32).toArray 126)).setRow w1.heap.size t.toArray).heap[w1.heap.size]? = some (.cells t.toArray 126 (0, 0)) := heap_put_new _ _ _ _
  have hrng : ((w1.alloc (.cells (bcells z32).toArray 126)).setRow w1.heap.size t.toArray).rangeAt w1.heap.size 0 t := fun j v hv => by
    rw [Nat.zero_add, cell_of_row _ _ j _ _ _ hrow]
    simpa using hv
  have S2 := (S1.later (put_grown w1 (.cells (bcells z32).toArray 126) t.toArray)).add ht (by show 0 < 32; omega) hrng (by omega) (fun h => by have := hd1 _ h; omega) (fun h => by have := he1 _ h; omega) (fun h => by have := hl1 _ h; omega)
  have HNEW := hide (show ∀ r ∈ ((.slice (some ⟨w1.heap.size, 0, none⟩) 1 1, t) :: recs : List (Value × List Value)), ∀ g, (Value.slice ao nl cap).ownBlock = some g → r.1.ownBlock ≠ some g by
    intro r hr g hg h
    rcases List.mem_cons.1 hr with rfl | hr
    · have h2 := hl1 g hg
      have e : w1.heap.size = g := by injection h
      omega
    · exact hnew r hr g hg h)
  have HS2 := hide S2
  clear hrow hrng hB1 hg1 S1 S2 HS hmk hd1 he1 hl1 hG1 hnew hn
  go_wp2_with (((with_reducible refine at_store ?_); rw [← z32_cells]; go_must (refine wpList_store_row rfl 126 _ _ rfl w1.heap.size t.toArray rfl rfl 126 _ (heap_alloc_new w1 _) (unhide K1) (unhide K2) (unhide K3) ?_)))
  generalize ((w1.alloc (.cells (bcells z32).toArray 126)).setRow w1.heap.size t.toArray) = W2 at HS2 ⊢
  generalize w1.heap.size = R at HS2 HNEW ⊢
  clear K2
  go_loopw [5] (fun v wr => ∃ i : Nat, i ≤ nl ∧ v = .int .i64 i ∧ StG (Ks ty o) P B w0 wr G cs1 tv xv (recs.map (·.1)) (recs.map (·.2)) ((.slice (some ⟨R, 0, none⟩) 1 1, t) :: recs) (.slice ao nl cap) nl (List.replicate i t ++ ls.drop i)) (fun v _ => nl - (intOf v).toNat)
  case atStart => exact ⟨0, Nat.zero_le _, rfl, unhide HS2⟩
  case round =>
    clear HS2
    obtain ⟨i, hi, rfl, S⟩ := hrel
    have HS := hide S
    by_cases hlt : i < nl
    · have hd : decide ((i : Int) < (nl : Int)) = true := by simp; omega
      have j0 : (0 : Int) ≤ (i : Int) := by omega
      have j1 : (i : Int) < (nl : Int) := by omega
      obtain ⟨g, hao⟩ : ∃ g, ao = some ⟨g, 0, none⟩ := by
        rcases S.hl.2 with ⟨h, h0⟩ | ⟨g, cap', cur, h, _⟩
        · omega
        · injection h with h _ _; exact ⟨g, h⟩
      subst hao
      have TH := hide (show wr.there g (i * 32) t.toArray.size by rw [List.size_toArray, ht]; exact S.room rfl hlt)
      have HM := hide S.mark
      clear S
      go_wp2_with (first | ((with_reducible refine at_load ?_); go_must (refine wpList_load_mid rfl 126 _ rfl R 0 (by rfl) t _ (unhide HM) Tryd.underlying126 rfl (unhide KM) ?_)) | ((with_reducible refine at_store ?_); go_must (refine wpList_store_mid rfl 126 _ _ rfl g (i * 32) t.toArray (by rfl) (by rfl) (unhide TH) (unhide K1) (unhide K3) ?_)))
      refine ⟨⟨i + 1, by omega, by go_num, ?_⟩, by simp [intOf]; omega⟩
      have := (unhide HS).put (i := i) (x := t) ht (fun d hd => by
        rcases List.mem_append.1 hd with hd | hd
        · rw [(List.mem_replicate.1 hd).2]; exact ht
        · exact hl32 d (List.mem_of_mem_drop hd)) (by simp; omega) (by simp; omega) rfl (fun r hr => unhide HNEW r hr g rfl)
      rw [fill_el _ _ _ (by omega)] at this
      exact this
    · have hd : decide ((i : Int) < (nl : Int)) = false := by simp; omega
      have S5 : StG (Ks ty o) P B w0 wr G cs1 tv xv (recs.map (·.1)) (recs.map (·.2)) ((.slice (some ⟨R, 0, none⟩) 1 1, t) :: recs) (.slice ao nl cap) nl (List.replicate nl t) := by
        have h9 := S
        rw [show i = nl by omega, List.drop_eq_nil_of_le (by omega), List.append_nil] at h9
        exact h9
      have HS5 := hide S5
      clear S HS S5
      go_wp2
      go_loopw [1, 6] (fun lv tk wr => ∃ (k : Nat) (cs' : Array Value) (tv' xv' : Value) (recs' : List (Value × List Value)), k ≤ 4 ∧ tk = .int .i64 k ∧ recs'.length = recs.length + k ∧ Marked Ms P recs' ∧ CsK (Ks ty o) o cs cs' (n + 1) ∧ StG (Ks ty o) P B w0 wr G cs' tv' xv' (recs'.map (·.1)) (recs'.map (·.2)) ((.slice (some ⟨R, 0, none⟩) 1 1, t) :: recs') lv (nl + k) (List.replicate (nl + k) t)) (fun _ tk _ => 4 - (intOf tk).toNat)
      case atStart => exact ⟨0, cs1, tv, xv, recs, by omega, rfl, rfl, unhide HM0, unhide HCS0, unhide HS5⟩
      case round =>
        clear HS5 HCS0
        obtain ⟨k, cs', tv', xv', recs', hk, rfl, hrl', hmk', hcs', S⟩ := hrel
        have HMK := hide hmk'
        clear hmk'
        have HCS := hide hcs'
        clear hcs'
        obtain ⟨al, cl, rfl⟩ := own_shape S.hl
        by_cases hlt4 : k < 4
        · have hd4 : decide ((k : Int) < 4) = true := by simp; omega
          have c3 : wr.cell? ⟨G, o + 5, none⟩ = some tv' := S.bk.cell1
          have hN1 : (recs'.map (·.1)).length = recs.length + k := by rw [List.length_map]; exact hrl'
          have hN2 : (recs'.map (·.2)).length = recs.length + k := by rw [List.length_map]; exact hrl'
          have hB := S.sz
          have hbG := S.bk.lt
          have HRL := hide hrl'
          have HT1 := hide (show ∀ (y : Value) (z : List Value), (recs' ++ [(y, z)]).map (fun r : Value × List Value => r.1) = recs'.map (fun r : Value × List Value => r.1) ++ [y] from fun y z => by simp)
          have HT2 := hide (show ∀ (y : Value) (z : List Value), (recs' ++ [(y, z)]).map (fun r : Value × List Value => r.2) = recs'.map (fun r : Value × List Value => r.2) ++ [z] from fun y z => by simp)
          obtain ⟨q1, q2, _⟩ := bq_lenG (recs'.map (·.1)).length (by omega)
          obtain ⟨q3, _, q4, _⟩ := bq_lenG (recs'.map (·.2)).length (by omega)
          obtain ⟨q5, _, q6, _⟩ := bq_lenG (nl + k) (by omega)
          generalize recs'.map (·.1) = tl at S q1 q2 HT1
          generalize recs'.map (·.2) = xl at S q3 q4 HT2
          have HS := hide S
          clear S hN1 hN2 hrl'
          go_wp2_with (at_builtin; (with_reducible refine at_app 27 ?_); refine wpList_append_keeps _ rfl (.tmp 27) (.tmp 29) 51 rfl B 52 iS (.slice none 0 0) 1 24 Tryd.underlying51 hiS hzS0 hzS1 hzS2 rfl (by decide) _ _ _ rfl ((unhide HS).ht.alloc _) ⟨wr.heap.size, 0, none⟩ 1 1 [.slice al (nl + k) cl] rfl rfl (one_new _ _ _ _ rfl) (one_slc _ _ _) (by decide) q1 q2 (by simp; omega) ?_; intro ga ca wa hownA hgrowA hatA _ _; have hsA := hgrowA.size; have hBa := (unhide HS).bk.same ((grown_trans (World.grownBy_alloc wr _ _) hgrowA).block G hbG (fun e => (unhide HS).tG e.symm)); have c3a : wa.cell? ⟨G, o + 5, none⟩ = some tv' := hBa.cell1; have f3a : wa.frozen? ⟨G, o + 5, none⟩ = false := hBa.free _; have SA : Hid (StG (Ks ty o) P B w0 (wa.setCell ⟨G, o + 5, none⟩ (.slice (some ⟨ga, 0, none⟩) (tl.length + 1) ca)) G _ (.slice (some ⟨ga, 0, none⟩) (tl.length + 1) ca) xv' (tl ++ [.slice al (nl + k) cl]) xl _ (.slice al (nl + k) cl) (nl + k) (List.replicate (nl + k) t)) := hide ((unhide HS).texts hownA hgrowA hatA); clear hBa hownA hgrowA hatA)
          have SA1 := (unhide SA).later (grown_drew (grown_refl _ none))
          generalize (wa.setCell ⟨G, o + 5, none⟩ (.slice (some ⟨ga, 0, none⟩) (tl.length + 1) ca)) = WA at SA SA1 ⊢
          have hRa : WA.drew.rangeAt R 0 t := SA1.mark
          have c4 : WA.drew.cell? ⟨G, o + 6, none⟩ = some xv' := SA1.bk.cell2
          have c4b : ∀ ob, (WA.alloc ob).drew.cell? ⟨G, o + 6, none⟩ = some xv' := fun ob => by rw [show (WA.alloc ob).drew = WA.drew.alloc ob from rfl, World.cell?_alloc_lt _ _ _ (by exact SA1.bk.lt)]; exact c4
          have HR1 := hide (show ∀ ob, (WA.alloc ob).drew.rangeAt R 0 t from fun ob => World.rangeAt_alloc hRa ob)
          have hcl : t.length = 32 := ht
          have SA2 := hide SA1
          clear SA SA1 c3 c3a f3a
          refine wp_region_held_drew (S := fun w' => w'.rangeAt R 0 t) (by kernel_rfl) hRa (fun hHeld => ?_)
          refine wpAnyH_take (i := 0) (v := .pointer (some ⟨G, o, none⟩)) rfl (by kernel_rfl) (by kernel_rfl) (by kernel_rfl) (fun _ _ _ h => h) (Or.inl ⟨by rfl, fun _ _ => by go_simp⟩) hHeld ?_
          simp only [List.getElem_toArray, List.getElem_cons_zero, Act.put, List.setIfInBounds_toArray, List.set_cons_zero, List.set_cons_succ]
          refine wpAnyH_take (i := 1) (v := .pointer (some ⟨G, o, none⟩)) rfl (by kernel_rfl) (by kernel_rfl) (by kernel_rfl) (fun _ _ _ h => h) (Or.inl ⟨by rfl, fun _ _ => by go_simp⟩) hHeld ?_
          simp only [List.getElem_toArray, List.getElem_cons_zero, List.getElem_cons_succ, Act.put, List.setIfInBounds_toArray, List.set_cons_zero, List.set_cons_succ]
          refine wpAnyH_take (i := 2) (v := .pointer (some ⟨G, o, none⟩)) rfl (by kernel_rfl) (by kernel_rfl) (by kernel_rfl) (fun _ _ _ h => h) (Or.inl ⟨by rfl, fun _ _ => by go_simp⟩) hHeld ?_
          simp only [List.getElem_toArray, List.getElem_cons_zero, List.getElem_cons_succ, Act.put, List.setIfInBounds_toArray, List.set_cons_zero, List.set_cons_succ]
          refine wpAnyH_take (i := 3) (v := .pointer (some ⟨G, o + 6, none⟩)) rfl (by kernel_rfl) (by kernel_rfl) (by kernel_rfl) (fun _ _ _ h => h) (Or.inl ⟨by rfl, fun _ _ => by go_simp⟩) hHeld ?_
          simp only [List.getElem_toArray, List.getElem_cons_zero, List.getElem_cons_succ, Act.put, List.setIfInBounds_toArray, List.set_cons_zero, List.set_cons_succ]
          refine wpAnyH_take (i := 5) rfl (by kernel_rfl) (by kernel_rfl) (by kernel_rfl) (fun _ _ _ h => h) (yieldsIf_load_mid (by rfl) 126 _ rfl R 0 rfl t _ (fun _ h => h) Tryd.underlying126 rfl (unhide KM)) hHeld ?_
          simp only [List.getElem_toArray, List.getElem_cons_zero, List.getElem_cons_succ, Act.put, List.setIfInBounds_toArray, List.set_cons_zero, List.set_cons_succ]
          refine wpAnyH_ready (rs := [4, 6]) (by kernel_rfl) (by simp) ?_
          refine AllReadyH.cons rfl (fun K hK => ?_) (AllReadyH.cons rfl (fun K hK => ?_) AllReadyH.nil)
          · go_simp
            refine hK.out _ _ hRa (fun hHeld => ?_)
            clear hK K
            refine wpAnyH_ready (rs := [6]) (by kernel_rfl) (by simp) ?_
            refine AllReadyH.cons rfl (fun K hK => ?_) AllReadyH.nil
            go_simp
            rw [← z32_cells, unhide HFD]
            refine hK.out _ _ (unhide HR1 _) (fun hHeld => ?_)
            clear hK K
            refine wpAnyH_ready (rs := [7]) (by kernel_rfl) (by simp) ?_
            refine AllReadyH.cons rfl (fun K hK => ?_) AllReadyH.nil
            rw [if_pos (by rfl)]
            refine wp_append_keeps _ (.tmp 37) (.tmp 39) 52 rfl B 126 i0 (.agg (bcells z32).toArray) 32 32 Tryd.underlying52 hi0 hz0 hz1 hz2 rfl (by decide) _ _ _ rfl ((unhide SA2).hx.alloc _) ⟨WA.heap.size, 0, none⟩ 1 1 t rfl (by rw [ht]) (news_row _ t _ _ rfl) (unhide HONE) (by decide) q3 q4 (Nat.le_of_lt (Nat.lt_of_le_of_lt (unhide SA2).sz (by simp))) ?_
            intro gx cx wx hownX hgrowX0 hatX _ _
            have hgrowX : (WA.drew.alloc (.cells t.toArray 126)).grownBy wx xv'.ownBlock := hgrowX0
            have hBx := (unhide SA2).bk.same ((grown_trans (World.grownBy_alloc _ _ _) hgrowX).block G (unhide SA2).bk.lt (fun e => (unhide SA2).xG e.symm))
            have c4x : wx.cell? ⟨G, o + 6, none⟩ = some xv' := hBx.cell2
            have f4x : wx.frozen? ⟨G, o + 6, none⟩ = false := hBx.free _
            have hRx := range_grown (unhide HR1 _) hgrowX (unhide SA2).markE
            have SX0 := (unhide SA2).text rfl ht hownX hgrowX hatX
            have SX : Hid (StG (Ks ty o) P B w0 (wx.setCell ⟨G, o + 6, none⟩ (.slice (some ⟨gx, 0, none⟩) (xl.length + 1) cx)) G _ _ (.slice (some ⟨gx, 0, none⟩) (xl.length + 1) cx) _ (xl ++ [t]) _ (.slice al (nl + k) cl) (nl + k) (List.replicate (nl + k) t)) := hide SX0
            clear hBx hownX hgrowX hgrowX0 hatX SX0
            refine hK.out _ _ hRx (fun hHeld => ?_)
            clear hK K
            refine wpAnyH_take (i := 8) (v := .pointer (some ⟨G, o, none⟩)) rfl (by kernel_rfl) (by kernel_rfl) (by kernel_rfl) (fun _ _ _ h => h) (Or.inl ⟨by rfl, fun _ _ => by go_simp⟩) hHeld ?_
            simp only [List.getElem_toArray, List.getElem_cons_zero, List.getElem_cons_succ, Act.put, List.setIfInBounds_toArray, List.set_cons_zero, List.set_cons_succ]
            refine wpAnyH_take (i := 9) (v := .pointer (some ⟨G, o + 6, none⟩)) rfl (by kernel_rfl) (by kernel_rfl) (by kernel_rfl) (fun _ _ _ h => h) (Or.inl ⟨by rfl, fun _ _ => by go_simp⟩) hHeld ?_
            simp only [List.getElem_toArray, List.getElem_cons_zero, List.getElem_cons_succ, Act.put, List.setIfInBounds_toArray, List.set_cons_zero, List.set_cons_succ]
            refine wpAnyH_ready (rs := [10]) (by kernel_rfl) (by simp) ?_
            refine AllReadyH.cons rfl (fun K hK => ?_) AllReadyH.nil
            go_simp
            refine hK.out _ _ (unhide SX).mark (fun _ => ?_)
            clear hK K c4x f4x c4 c4b HR1 hRa hRx hHeld SA2 HS
            generalize (wx.setCell ⟨G, o + 6, none⟩ (.slice (some ⟨gx, 0, none⟩) (xl.length + 1) cx)) = WX at SX ⊢
            refine wpAnyH_done (by kernel_rfl) ?_ _
            go_wp2_with (first | ((with_reducible refine at_load ?_); refine wpList_load_mid rfl 126 _ rfl R 0 (by rfl) t _ (unhide SX).mark Tryd.underlying126 rfl (unhide KM) ?_) | (at_builtin; rw [← z32_cells, unhide HFD]; refine wpList_append_keeps _ rfl (.tmp 43) (.tmp 45) 52 rfl B 126 i0 (.agg (bcells z32).toArray) 32 32 Tryd.underlying52 hi0 hz0 hz1 hz2 rfl (by decide) _ _ _ rfl ((unhide SX).hl.alloc _) ⟨WX.heap.size, 0, none⟩ 1 1 t rfl (by rw [ht]) (news_row _ t _ _ rfl) (unhide HONE) (by decide) q5 q6 (Nat.le_of_lt (Nat.lt_of_le_of_lt (unhide SX).sz (by simp))) ?_; intro gl cll wl hownL hgrowL hatL _ hkeepL; have SL := hide ((unhide SX).grow (ls' := List.replicate (nl + k + 1) t) (by rw [List.replicate_succ', fl_snoc]; exact hownL) hgrowL hatL hkeepL); clear hownL hgrowL hatL hkeepL))
            refine ⟨⟨k + 1, (cs'.setIfInBounds (Ks ty o).i1 (.slice (some ⟨ga, 0, none⟩) (tl.length + 1) ca)).setIfInBounds (Ks ty o).i2 (.slice (some ⟨gx, 0, none⟩) (xl.length + 1) cx), .slice (some ⟨ga, 0, none⟩) (tl.length + 1) ca, .slice (some ⟨gx, 0, none⟩) (xl.length + 1) cx, recs' ++ [(.slice al (nl + k) cl, t)], by omega, by go_num, by rw [List.length_append, unhide HRL]; rfl, (unhide HMK).snoc (unhide HMT) (fun k hk => ((unhide SX).pr k hk).2.2.2.2.2), ((unhide HCS).set1 (by simp [Ks]) _).set2 (by simp [Ks]) _, ?_⟩, by simp [intOf]; omega⟩
            have hSL := unhide SL
            rw [← unhide HT1 (.slice al (nl + k) cl) t, ← unhide HT2 (.slice al (nl + k) cl) t] at hSL
            exact hSL
          · go_simp
            rw [← z32_cells, unhide HFD]
            refine hK.out _ _ (unhide HR1 _) (fun hHeld => ?_)
            clear hK K
            refine wpAnyH_ready (rs := [4]) (by kernel_rfl) (by simp) ?_
            refine AllReadyH.cons rfl (fun K hK => ?_) AllReadyH.nil
            go_simp
            refine hK.out _ _ (unhide HR1 _) (fun hHeld => ?_)
            clear hK K
            refine wpAnyH_ready (rs := [7]) (by kernel_rfl) (by simp) ?_
            refine AllReadyH.cons rfl (fun K hK => ?_) AllReadyH.nil
            rw [if_pos (by rfl)]
            refine wp_append_keeps _ (.tmp 37) (.tmp 39) 52 rfl B 126 i0 (.agg (bcells z32).toArray) 32 32 Tryd.underlying52 hi0 hz0 hz1 hz2 rfl (by decide) _ _ _ rfl ((unhide SA2).hx.alloc _) ⟨WA.heap.size, 0, none⟩ 1 1 t rfl (by rw [ht]) (news_row _ t _ _ rfl) (unhide HONE) (by decide) q3 q4 (Nat.le_of_lt (Nat.lt_of_le_of_lt (unhide SA2).sz (by simp))) ?_
            intro gx cx wx hownX hgrowX0 hatX _ _
            have hgrowX : (WA.drew.alloc (.cells t.toArray 126)).grownBy wx xv'.ownBlock := hgrowX0
            have hBx := (unhide SA2).bk.same ((grown_trans (World.grownBy_alloc _ _ _) hgrowX).block G (unhide SA2).bk.lt (fun e => (unhide SA2).xG e.symm))
            have c4x : wx.cell? ⟨G, o + 6, none⟩ = some xv' := hBx.cell2
            have f4x : wx.frozen? ⟨G, o + 6, none⟩ = false := hBx.free _
            have hRx := range_grown (unhide HR1 _) hgrowX (unhide SA2).markE
            have SX0 := (unhide SA2).text rfl ht hownX hgrowX hatX
            have SX : Hid (StG (Ks ty o) P B w0 (wx.setCell ⟨G, o + 6, none⟩ (.slice (some ⟨gx, 0, none⟩) (xl.length + 1) cx)) G _ _ (.slice (some ⟨gx, 0, none⟩) (xl.length + 1) cx) _ (xl ++ [t]) _ (.slice al (nl + k) cl) (nl + k) (List.replicate (nl + k) t)) := hide SX0
            clear hBx hownX hgrowX hgrowX0 hatX SX0
            refine hK.out _ _ hRx (fun hHeld => ?_)
            clear hK K
            refine wpAnyH_take (i := 8) (v := .pointer (some ⟨G, o, none⟩)) rfl (by kernel_rfl) (by kernel_rfl) (by kernel_rfl) (fun _ _ _ h => h) (Or.inl ⟨by rfl, fun _ _ => by go_simp⟩) hHeld ?_
            simp only [List.getElem_toArray, List.getElem_cons_zero, List.getElem_cons_succ, Act.put, List.setIfInBounds_toArray, List.set_cons_zero, List.set_cons_succ]
            refine wpAnyH_take (i := 9) (v := .pointer (some ⟨G, o + 6, none⟩)) rfl (by kernel_rfl) (by kernel_rfl) (by kernel_rfl) (fun _ _ _ h => h) (Or.inl ⟨by rfl, fun _ _ => by go_simp⟩) hHeld ?_
            simp only [List.getElem_toArray, List.getElem_cons_zero, List.getElem_cons_succ, Act.put, List.setIfInBounds_toArray, List.set_cons_zero, List.set_cons_succ]
            refine wpAnyH_ready (rs := [10]) (by kernel_rfl) (by simp) ?_
            refine AllReadyH.cons rfl (fun K hK => ?_) AllReadyH.nil
            go_simp
            refine hK.out _ _ (unhide SX).mark (fun _ => ?_)
            clear hK K c4x f4x c4 c4b HR1 hRa hRx hHeld SA2 HS
            generalize (wx.setCell ⟨G, o + 6, none⟩ (.slice (some ⟨gx, 0, none⟩) (xl.length + 1) cx)) = WX at SX ⊢
            refine wpAnyH_done (by kernel_rfl) ?_ _
            go_wp2_with (first | ((with_reducible refine at_load ?_); refine wpList_load_mid rfl 126 _ rfl R 0 (by rfl) t _ (unhide SX).mark Tryd.underlying126 rfl (unhide KM) ?_) | (at_builtin; rw [← z32_cells, unhide HFD]; refine wpList_append_keeps _ rfl (.tmp 43) (.tmp 45) 52 rfl B 126 i0 (.agg (bcells z32).toArray) 32 32 Tryd.underlying52 hi0 hz0 hz1 hz2 rfl (by decide) _ _ _ rfl ((unhide SX).hl.alloc _) ⟨WX.heap.size, 0, none⟩ 1 1 t rfl (by rw [ht]) (news_row _ t _ _ rfl) (unhide HONE) (by decide) q5 q6 (Nat.le_of_lt (Nat.lt_of_le_of_lt (unhide SX).sz (by simp))) ?_; intro gl cll wl hownL hgrowL hatL _ hkeepL; have SL := hide ((unhide SX).grow (ls' := List.replicate (nl + k + 1) t) (by rw [List.replicate_succ', fl_snoc]; exact hownL) hgrowL hatL hkeepL); clear hownL hgrowL hatL hkeepL))
            refine ⟨⟨k + 1, (cs'.setIfInBounds (Ks ty o).i1 (.slice (some ⟨ga, 0, none⟩) (tl.length + 1) ca)).setIfInBounds (Ks ty o).i2 (.slice (some ⟨gx, 0, none⟩) (xl.length + 1) cx), .slice (some ⟨ga, 0, none⟩) (tl.length + 1) ca, .slice (some ⟨gx, 0, none⟩) (xl.length + 1) cx, recs' ++ [(.slice al (nl + k) cl, t)], by omega, by go_num, by rw [List.length_append, unhide HRL]; rfl, (unhide HMK).snoc (unhide HMT) (fun k hk => ((unhide SX).pr k hk).2.2.2.2.2), ((unhide HCS).set1 (by simp [Ks]) _).set2 (by simp [Ks]) _, ?_⟩, by simp [intOf]; omega⟩
            have hSL := unhide SL
            rw [← unhide HT1 (.slice al (nl + k) cl) t, ← unhide HT2 (.slice al (nl + k) cl) t] at hSL
            exact hSL
        · have hd4 : decide ((k : Int) < 4) = false := by simp; omega
          have hk4 : k = 4 := by omega
          have HS := hide S.sub.drop
          clear S
          rw [hk4] at hrl'
          have HRL := hide hrl'
          clear hrl' hk4
          go_wp2
          exact bodyPost_end (results_none Tryd.results71 _ _ _) rfl ⟨cs', tv', xv', recs', unhide HS, unhide HMK, unhide HRL, unhide HCS, rfl⟩
end Go.Proofs.YtanfolfopalbeaaDoor
