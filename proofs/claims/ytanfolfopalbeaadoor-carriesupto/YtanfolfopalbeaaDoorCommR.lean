/- The book takes texts: the contract. The book's holds, inside an object: the contract. The book inside an object, between the calls: one kind's invariant, what begins a call of it, what a call leaves, what another kind's call keeps. The book of texts, disks and plans inside an object: the three calls. The book inside an object: an empty one; another cell of the object written. The reference's heaps: logs of as many entries as a power of two, the smallest last; what is gathered from them is the root. The reference's Tree: the contract. -/
import Derived.Test.YtanfolfopalbeaaDoorBookG2
import Derived.Test.YtanfolfopalbeaaDoorCarry5
import Derived.Test.YtanfolfopalbeaaDoorCommQ
import Derived.Test.YtanfolfopalbeaaDoorTreeMath
import Derived.Deep.CutRange
import Derived.WalkSmall
import Derived.BigQuiet
namespace Go.Proofs.YtanfolfopalbeaaDoor
open Go.RowKit

/-- The kind of texts. -/
def Kt (ty : TypeId) (o : Nat) : Kd := ⟨ty, 34, 9, 1, o + 1, o + 2⟩
theorem info_strs : (Tryd.prog.info? 34).map (fun i => (i.zero, i.size, i.bytes)) = some (some (.slice none 0 0), 1, 24) := by kernel_rfl
theorem v_a32 (d : List UInt8) (h : d.length = 32) : (Tryd.prog.info? 30).map (·.size) = some (bcells d).toArray.size := by rw [bcells_size, h]; exact info_a32
theorem one_str (s : ByteArray) : ∀ u ∈ [Value.string s], u.oneCell' = true := by intro u hu; rw [List.mem_singleton.1 hu]; rfl

/-- A mark of this kind. -/
def Mt (m : List Value) : Prop := ∃ s : ByteArray, m = [.string s]
set_option maxRecDepth 100000 in
set_option maxHeartbeats 3200000 in
theorem bKt_any (ty : TypeId) (o : Nat) (P : Nat → Prop) (B G n : Nat) (cs : Array Value) (tv xv : Value) (w0 w : World) (recs : List (Value × List Value)) (lv : Value) (nl : Nat) (ls : List (List Value)) (S : StG (Kt ty o) P B w0 w G cs tv xv (recs.map (·.1)) (recs.map (·.2)) recs lv nl ls)
    (hn : cs[o]? = some (.int .i64 (n : Int))) (hb : n ≤ 1099511627776) (hnl : nl ≤ 1000) (hll : ls.length = nl) (hl32 : ∀ d ∈ ls, d.length = 1) (hrl : recs.length ≤ 1099511627776) (hnew : ∀ r ∈ recs, ∀ g, lv.ownBlock = some g → r.1.ownBlock ≠ some g) (hmk0 : Marked Mt P recs) :
    Calls Tryd.prog 73 #[.pointer (some ⟨G, o, none⟩), lv] w fun e w' => ∃ cs' tv' xv' recs', StG (Kt ty o) P B w0 w' G cs' tv' xv' (recs'.map (·.1)) (recs'.map (·.2)) recs' (.slice none 0 0) 0 [] ∧ Marked Mt P recs' ∧ recs'.length = recs.length + 4 ∧ CsK (Kt ty o) o cs cs' (n + 1) ∧ e = .returned (.tuple #[]) := by
  have hmk := markO_any G o cs ty n w S.bk.1 hn hb
  obtain ⟨iS, hiS, hzS0, hzS1, hzS2⟩ := info_parts info_strs
  obtain ⟨i0, hi0, hz0, hz1, hz2⟩ := info_parts info_str
  have HS := hide S
  have HM0 := hide hmk0
  clear S hmk0
  obtain ⟨ao, cap, rfl⟩ := own_shape (unhide HS).hl
  go_enter Tryd.func73, Tryd.ntmps73
  go_wp2_with fail
  refine hmk.mono ?_
  rintro e w1 ⟨tb, htb, rfl, hB1, hg1⟩
  have S1 := (unhide HS).count hg1 ((unhide HS).bk.num hB1 (by simp [Kt]) (by simp [Kt]))
  have HCS0 := hide (CsK.start (K := Kt ty o) (n := n + 1) hn)
  generalize cs.setIfInBounds o (.int .i64 ((n + 1 : Nat) : Int)) = cs1 at S1 HCS0
  have K1 := hide (v_a32 tb htb)
  have K2 := hide (v_z32 tb htb)
  have hrow : ((w1.alloc (.cells (bcells z32).toArray 30)).setRow w1.heap.size (bcells tb).toArray).heap[w1.heap.size]? = some (.cells (bcells tb).toArray 30 (0, 0)) := heap_put_new _ _ _ _
  have HS2 := hide (S1.later (put_grown w1 (.cells (bcells z32).toArray 30) (bcells tb).toArray))
  have HNEW := hide (fun r hr g hg => hnew r hr g hg)
  have HROW := hide hrow
  clear hrow hB1 hg1 S1 HS hmk hnew hn
  go_upto_region 1 with (((with_reducible refine at_store ?_); rw [← z32_cells]; go_must (refine wpList_store_row rfl 30 _ _ rfl w1.heap.size (bcells tb).toArray rfl rfl 30 _ (heap_alloc_new w1 _) (unhide K1) (unhide K2) (bcells_one tb) ?_)))
  generalize ((w1.alloc (.cells (bcells z32).toArray 30)).setRow w1.heap.size (bcells tb).toArray) = W2 at HS2 HROW ⊢
  generalize w1.heap.size = R at HROW ⊢
  have hcv := run_convert_bytes_back (P := Tryd.prog) W2 45 9 5 ⟨R, 0, none⟩ 32 tb Tryd.underlying45 Tryd.underlying5 Tryd.underlying9 (by
    intro j hj
    rw [Addr.add_lit, cell_of_row W2 R _ _ _ _ (unhide HROW)]
    simp [bcells, List.getElem?_eq_getElem hj])
  rw [htb] at hcv
  generalize (ByteArray.mk tb.toArray) = s at hcv
  have HMT := hide (show Mt [.string s] from ⟨s, rfl⟩)
  have ht : [Value.string s].length = 1 := rfl
  go_wp2_with fail
  clear hcv HROW K1 K2
  go_loopw [6] (fun v wr => ∃ i : Nat, i ≤ nl ∧ v = .int .i64 i ∧ StG (Kt ty o) P B w0 wr G cs1 tv xv (recs.map (·.1)) (recs.map (·.2)) recs (.slice ao nl cap) nl (List.replicate i [.string s] ++ ls.drop i)) (fun v _ => nl - (intOf v).toNat)
  case atStart => exact ⟨0, Nat.zero_le _, rfl, unhide HS2⟩
  case round =>
    clear HS2
    obtain ⟨i, hi, rfl, S⟩ := hrel
    have HS := hide S
    by_cases hlt : i < nl
    · have hd : decide ((i : Int) < (nl : Int)) = true := by simp; omega
      have j0 : (0 : Int) ≤ (i : Int) := by omega
      have j1 : (i : Int) < (nl : Int) := by omega
      obtain ⟨g, hao⟩ : ∃ g, ao = some ⟨g, 0, none⟩ := by
        rcases S.hl.2 with ⟨h, h0⟩ | ⟨g, cap', cur, h, _⟩
        · omega
        · injection h with h _ _; exact ⟨g, h⟩
      subst hao
      have hth := S.room rfl hlt 0 (by show 0 < 1; omega)
      obtain ⟨u, hu⟩ := Option.isSome_iff_exists.1 hth.1
      have hcu : wr.cell? ⟨g, i, none⟩ = some u := by
        have : i * (Kt ty o).sz + 0 = i := by show i * 1 + 0 = i; omega
        rw [this] at hu
        exact hu
      have hfu : wr.frozen? ⟨g, i, none⟩ = false := by
        have : i * (Kt ty o).sz + 0 = i := by show i * 1 + 0 = i; omega
        have h9 := hth.2
        rw [this] at h9
        exact h9
      clear S hth hu
      go_wp2
      refine ⟨⟨i + 1, by omega, by go_num, ?_⟩, by simp [intOf]; omega⟩
      have := (unhide HS).put (i := i) (x := [.string s]) rfl (fun d hd => by
        rcases List.mem_append.1 hd with hd | hd
        · rw [(List.mem_replicate.1 hd).2]; rfl
        · exact hl32 d (List.mem_of_mem_drop hd)) (by simp; omega) (by simp; omega) rfl (fun r hr => unhide HNEW r hr g rfl)
      rw [fill_el _ _ _ (by omega)] at this
      have e1 : i * (Kt ty o).sz = i := Nat.mul_one i
      rw [e1] at this
      exact this
    · have hd : decide ((i : Int) < (nl : Int)) = false := by simp; omega
      have S5 : StG (Kt ty o) P B w0 wr G cs1 tv xv (recs.map (·.1)) (recs.map (·.2)) recs (.slice ao nl cap) nl (List.replicate nl [.string s]) := by
        have h9 := S
        rw [show i = nl by omega, List.drop_eq_nil_of_le (by omega), List.append_nil] at h9
        exact h9
      have HS5 := hide S5
      clear S HS S5
      go_wp2
      go_loopw [1, 7] (fun lv tk wr => ∃ (k : Nat) (cs' : Array Value) (tv' xv' : Value) (recs' : List (Value × List Value)), k ≤ 4 ∧ tk = .int .i64 k ∧ recs'.length = recs.length + k ∧ Marked Mt P recs' ∧ CsK (Kt ty o) o cs cs' (n + 1) ∧ StG (Kt ty o) P B w0 wr G cs' tv' xv' (recs'.map (·.1)) (recs'.map (·.2)) recs' lv (nl + k) (List.replicate (nl + k) [.string s])) (fun _ tk _ => 4 - (intOf tk).toNat)
      case atStart => exact ⟨0, cs1, tv, xv, recs, by omega, rfl, rfl, unhide HM0, unhide HCS0, unhide HS5⟩
      case round =>
        clear HS5 HCS0
        obtain ⟨k, cs', tv', xv', recs', hk, rfl, hrl', hmk', hcs', S⟩ := hrel
        have HMK := hide hmk'
        clear hmk'
        have HCS := hide hcs'
        clear hcs'
        obtain ⟨al, cl, rfl⟩ := own_shape S.hl
        by_cases hlt4 : k < 4
        · have hd4 : decide ((k : Int) < 4) = true := by simp; omega
          have c3 : wr.cell? ⟨G, o + 1, none⟩ = some tv' := S.bk.cell1
          have hN1 : (recs'.map (·.1)).length = recs.length + k := by rw [List.length_map]; exact hrl'
          have hN2 : (recs'.map (·.2)).length = recs.length + k := by rw [List.length_map]; exact hrl'
          have hB := S.sz
          have hbG := S.bk.lt
          have HRL := hide hrl'
          have HT1 := hide (show ∀ (y : Value) (z : List Value), (recs' ++ [(y, z)]).map (fun r : Value × List Value => r.1) = recs'.map (fun r : Value × List Value => r.1) ++ [y] from fun y z => by simp)
          have HT2 := hide (show ∀ (y : Value) (z : List Value), (recs' ++ [(y, z)]).map (fun r : Value × List Value => r.2) = recs'.map (fun r : Value × List Value => r.2) ++ [z] from fun y z => by simp)
          obtain ⟨q1, q2, _⟩ := bq_lenG (recs'.map (·.1)).length (by omega)
          obtain ⟨q3, _, _, _, q4⟩ := bq_lenG (recs'.map (·.2)).length (by omega)
          obtain ⟨q5, _, _, _, q6⟩ := bq_lenG (nl + k) (by omega)
          generalize recs'.map (·.1) = tl at S q1 q2 HT1
          generalize recs'.map (·.2) = xl at S q3 q4 HT2
          have HS := hide S
          clear S hN1 hN2 hrl'
          go_upto_region 10 with (at_builtin; (with_reducible refine at_app 30 ?_); refine wpList_append_keeps _ rfl (.tmp 30) (.tmp 32) 48 rfl B 34 iS (.slice none 0 0) 1 24 Tryd.underlying48 hiS hzS0 hzS1 hzS2 rfl (by decide) _ _ _ rfl ((unhide HS).ht.alloc _) ⟨wr.heap.size, 0, none⟩ 1 1 [.slice al (nl + k) cl] rfl rfl (one_new _ _ _ _ rfl) (one_slc _ _ _) (by decide) q1 q2 (by simp; omega) ?_; intro ga ca wa hownA hgrowA hatA _ _; have hsA := hgrowA.size; have hBa := (unhide HS).bk.same ((grown_trans (World.grownBy_alloc wr _ _) hgrowA).block G hbG (fun e => (unhide HS).tG e.symm)); have c3a : wa.cell? ⟨G, o + 1, none⟩ = some tv' := hBa.cell1; have f3a : wa.frozen? ⟨G, o + 1, none⟩ = false := hBa.free _; have SA : Hid (StG (Kt ty o) P B w0 (wa.setCell ⟨G, o + 1, none⟩ (.slice (some ⟨ga, 0, none⟩) (tl.length + 1) ca)) G _ (.slice (some ⟨ga, 0, none⟩) (tl.length + 1) ca) xv' (tl ++ [.slice al (nl + k) cl]) xl _ (.slice al (nl + k) cl) (nl + k) (List.replicate (nl + k) [.string s])) := hide ((unhide HS).texts hownA hgrowA hatA); clear hBa hownA hgrowA hatA)
          generalize (wa.setCell ⟨G, o + 1, none⟩ (.slice (some ⟨ga, 0, none⟩) (tl.length + 1) ca)) = WA at SA ⊢
          clear c3 c3a f3a
          have c4 : WA.cell? ⟨G, o + 2, none⟩ = some xv' := (unhide SA).bk.cell2
          go_upto_region 11 with (at_builtin; (with_reducible refine at_app 40 ?_); refine wpList_append_keeps _ rfl (.tmp 40) (.tmp 42) 34 rfl B 9 i0 (.string ⟨#[]⟩) 1 16 Tryd.underlying34 hi0 hz0 hz1 hz2 rfl (by decide) _ _ _ rfl ((unhide SA).hx.alloc _) ⟨WA.heap.size, 0, none⟩ 1 1 [.string s] rfl rfl (one_new _ _ _ _ rfl) (one_str s) (by decide) q3 q4 (Nat.le_of_lt (Nat.lt_of_le_of_lt (unhide SA).sz (by simp))) ?_; intro gx cx wx hownX hgrowX hatX _ _; have hBx := (unhide SA).bk.same ((grown_trans (World.grownBy_alloc _ _ _) hgrowX).block G (unhide SA).bk.lt (fun e => (unhide SA).xG e.symm)); have c4x : wx.cell? ⟨G, o + 2, none⟩ = some xv' := hBx.cell2; have f4x : wx.frozen? ⟨G, o + 2, none⟩ = false := hBx.free _; have SX : Hid (StG (Kt ty o) P B w0 (wx.setCell ⟨G, o + 2, none⟩ (.slice (some ⟨gx, 0, none⟩) (xl.length + 1) cx)) G _ _ (.slice (some ⟨gx, 0, none⟩) (xl.length + 1) cx) _ (xl ++ [[.string s]]) _ (.slice al (nl + k) cl) (nl + k) (List.replicate (nl + k) [.string s])) := hide ((unhide SA).text rfl rfl hownX hgrowX hatX); clear hBx hownX hgrowX hatX)
          generalize (wx.setCell ⟨G, o + 2, none⟩ (.slice (some ⟨gx, 0, none⟩) (xl.length + 1) cx)) = WX at SX ⊢
          clear c4 c4x f4x SA HS
          go_wp2_with (at_builtin; refine wpList_append_keeps _ rfl (.tmp 46) (.tmp 48) 34 rfl B 9 i0 (.string ⟨#[]⟩) 1 16 Tryd.underlying34 hi0 hz0 hz1 hz2 rfl (by decide) _ _ _ rfl ((unhide SX).hl.alloc _) ⟨WX.heap.size, 0, none⟩ 1 1 [.string s] rfl rfl (one_new _ _ _ _ rfl) (one_str s) (by decide) q5 q6 (Nat.le_of_lt (Nat.lt_of_le_of_lt (unhide SX).sz (by simp))) ?_; intro gl cll wl hownL hgrowL hatL _ hkeepL; have SL := hide ((unhide SX).grow (ls' := List.replicate (nl + k + 1) [.string s]) (by rw [List.replicate_succ', fl_snoc]; exact hownL) hgrowL hatL hkeepL); clear hownL hgrowL hatL hkeepL)
          refine ⟨⟨k + 1, (cs'.setIfInBounds (Kt ty o).i1 (.slice (some ⟨ga, 0, none⟩) (tl.length + 1) ca)).setIfInBounds (Kt ty o).i2 (.slice (some ⟨gx, 0, none⟩) (xl.length + 1) cx), .slice (some ⟨ga, 0, none⟩) (tl.length + 1) ca, .slice (some ⟨gx, 0, none⟩) (xl.length + 1) cx, recs' ++ [(.slice al (nl + k) cl, [.string s])], by omega, by go_num, by rw [List.length_append, unhide HRL]; rfl, (unhide HMK).snoc (unhide HMT) (fun k hk => ((unhide SX).pr k hk).2.2.2.2.2), ((unhide HCS).set1 (by simp [Kt]) _).set2 (by simp [Kt]) _, ?_⟩, by simp [intOf]; omega⟩
          have hSL := unhide SL
          rw [← unhide HT1 (.slice al (nl + k) cl) [.string s], ← unhide HT2 (.slice al (nl + k) cl) [.string s]] at hSL
          exact hSL
        · have hd4 : decide ((k : Int) < 4) = false := by simp; omega
          have hk4 : k = 4 := by omega
          have HS := hide S.drop
          clear S
          rw [hk4] at hrl'
          have HRL := hide hrl'
          clear hrl' hk4
          go_wp2
          exact bodyPost_end (results_none Tryd.results73 _ _ _) rfl ⟨cs', tv', xv', recs', unhide HS, unhide HMK, unhide HRL, unhide HCS, rfl⟩
end Go.Proofs.YtanfolfopalbeaaDoor
namespace Go.Proofs.YtanfolfopalbeaaDoor
open Go.RowKit

theorem drewN_bgrown (w : World) : ∀ n, w.grownBy (w.drewN n) none := fun _ => ⟨rfl, rfl, rfl, Nat.le_refl _, fun _ _ _ => rfl⟩
theorem range_one {w : World} {g i : Nat} {v : Value} (h : w.rangeAt g (i * 1) [v]) : w.cell? ⟨g, i, none⟩ = some v := by
  have := h 0 v rfl
  rwa [Nat.mul_one, Nat.add_zero] at this
set_option maxRecDepth 100000 in
set_option maxHeartbeats 3200000 in
theorem holdsG_any (ty : TypeId) (o : Nat) (P P' P2 : Nat → Prop) (B B' B2 G : Nat) (cs : Array Value) (tv xv pv qv lv mv : Value) (w0 w0' w02 w : World) (recs recp rect : List (Value × List Value))
    (S : StG (Ks ty o) P B w0 w G cs tv xv (recs.map (·.1)) (recs.map (·.2)) recs (.slice none 0 0) 0 []) (Sp : StG (Kp ty o) P' B' w0' w G cs pv qv (recp.map (·.1)) (recp.map (·.2)) recp (.slice none 0 0) 0 []) (St : StG (Kt ty o) P2 B2 w02 w G cs lv mv (rect.map (·.1)) (rect.map (·.2)) rect (.slice none 0 0) 0 [])
    (hM : Marked Ms P recs) (hN : Marked Mp P' recp) (hT : Marked Mt P2 rect) (hl : recs.length ≤ 1099511627776) (hp : recp.length ≤ 1099511627776) (ht : rect.length ≤ 1099511627776) (hd3 : cs[o + 3]? = some (.slice none 0 0)) :
    Calls Tryd.prog 26 #[.pointer (some ⟨G, o, none⟩)] w fun e w' => e = .returned (.bool true) ∧ Below w.heap.size w w' := by
  have HS := hide St
  have HM := hide hT
  have hdk := fun (wq : World) (h : w.grownBy wq none) => disksG_any ty o P P' B B' G cs tv xv pv qv w0 w0' wq recs recp (S.later h) (Sp.later h) hM hN hl hp
  have HDK := hide hdk
  clear S Sp St hM hN hT hdk hl hp
  go_enter Tryd.func26, Tryd.ntmps26
  go_wp2
  go_loopw [3] (fun v wr => ∃ k : Nat, k ≤ rect.length ∧ v = .int .i64 k ∧ w.grownBy wr none) (fun v _ => rect.length - (intOf v).toNat)
  case atStart => exact ⟨0, Nat.zero_le _, rfl, grown_refl _ _⟩
  case round =>
    obtain ⟨k, hk, rfl, hgr⟩ := hrel
    have HGR := hide hgr
    clear hgr
    by_cases hlt : k < rect.length
    · have hd : decide ((k : Int) < (rect.length : Int)) = true := by simp; omega
      have j1 : (k : Int) < (rect.length : Int) := by omega
      have S := (unhide HS).later (unhide HGR)
      obtain ⟨gt, ct, gx, cx, ao, n, cap, rfl, rfl, hrk1, hn1, hn2⟩ := S.look k hlt
      obtain ⟨mk, hrk⟩ : ∃ mk, rect[k] = (.slice ao n cap, mk) := ⟨rect[k].2, Prod.ext hrk1 rfl⟩
      obtain ⟨s, rfl⟩ : Mt mk := by
        have := (unhide HM rect[k] (List.getElem_mem hlt)).1
        rwa [hrk] at this
      have c1 : wr.cell? ⟨G, o + 1, none⟩ = some (.slice (some ⟨gt, 0, none⟩) rect.length ct) := S.bk.cell1
      have ctk := (S.read k hlt hrk).1
      have HRK := hide hrk
      unfold maxLen at hn2
      clear S hrk hrk1
      go_wp2
      go_loopw [4] (fun v wq => ∃ i : Nat, i ≤ n ∧ v = .int .i64 i ∧ wr.grownBy wq none) (fun v _ => n - (intOf v).toNat)
      case atStart => exact ⟨0, Nat.zero_le _, rfl, grown_refl _ _⟩
      case round =>
        obtain ⟨i, hi, rfl, hgq⟩ := hrel
        have S := ((unhide HS).later (unhide HGR)).later hgq
        have HGQ := hide hgq
        have e1 : wr.cell? ⟨G, o + 1, none⟩ = some (.slice (some ⟨gt, 0, none⟩) rect.length ct) := S.bk.cell1
        have e3 : wr.cell? ⟨G, o + 2, none⟩ = some (.slice (some ⟨gx, 0, none⟩) rect.length cx) := S.bk.cell2
        obtain ⟨e2, e4', h3⟩ := S.read k hlt (unhide HRK)
        have e4 := range_one (show wr.rangeAt gx (k * 1) [.string s] from e4')
        clear e4'
        by_cases hin : i < n
        · have hd2 : decide ((i : Int) < (n : Int)) = true := by simp; omega
          have j2 : (i : Int) < (n : Int) := by omega
          obtain ⟨g, hao, hc⟩ := h3 (by omega)
          subst hao
          have e5 := range_one (show wr.rangeAt g (i * 1) [.string s] from hc i hin)
          clear hc h3 S hgq
          go_wp2
          go_quiet (fail)
          go_wp2
          exact ⟨⟨i + 1, by omega, by go_num, grown_trans (unhide HGQ) (drewN_bgrown _ _)⟩, by simp [intOf]; omega⟩
        · have hd2 : decide ((i : Int) < (n : Int)) = false := by simp; omega
          clear S hgq h3
          go_wp2
          exact ⟨⟨k + 1, by omega, by go_num, grown_trans (unhide HGR) (unhide HGQ)⟩, by simp [intOf]; omega⟩
    · have hke : k = rect.length := by omega
      have S := (unhide HS).later (unhide HGR)
      obtain ⟨at1, ct, hdv⟩ := S.head
      have c1 : wr.cell? ⟨G, o + 1, none⟩ = some (.slice at1 rect.length ct) := by rw [← hdv]; exact S.bk.cell1
      have c3 : wr.cell? ⟨G, o + 3, none⟩ = some (.slice none 0 0) := by rw [cell_of_row wr G _ _ _ _ S.bk.1]; exact hd3
      have hd : decide ((k : Int) < (rect.length : Int)) = false := by simp; omega
      have hdk2 := unhide HDK wr (unhide HGR)
      clear S hdv HDK
      go_wp2
      go_loopw [5] (fun v wq => v = .int .i64 0 ∧ wq = wr) (fun _ _ => 0)
      case atStart => exact ⟨rfl, rfl⟩
      case round =>
        obtain ⟨rfl, rfl⟩ := hrel
        go_wp2_with (go_at_call 62; refine hdk2.mono ?_; rintro e wz ⟨rfl, hbz⟩)
        go_ret
        exact ⟨rfl, (bel_of_grown (unhide HGR)).trans (hbz.mono (unhide HGR).size)⟩
end Go.Proofs.YtanfolfopalbeaaDoor
namespace Go.Proofs.YtanfolfopalbeaaDoor
open Go.RowKit

/-- A block of the lists, of their marks, or of one of them. -/
def InB (tv xv : Value) (recs : List (Value × List Value)) (k : Nat) : Prop := tv.ownBlock = some k ∨ xv.ownBlock = some k ∨ ∃ r ∈ recs, r.1.ownBlock = some k
/-- A block that a call with the list lv leaves as it is. -/
def FreeB (w : World) (G : Nat) (tv xv : Value) (recs : List (Value × List Value)) (lv : Value) (k : Nat) : Prop := k < w.heap.size ∧ k ≠ G ∧ ¬ InB tv xv recs k ∧ lv.ownBlock ≠ some k
/-- What holds of a kind's lists between the calls. -/
structure BkV (K : Kd) (M : List Value → Prop) (B : Nat) (w : World) (G : Nat) (cs : Array Value) (tv xv : Value) (recs : List (Value × List Value)) : Prop where
  bk : ObK K w G cs tv xv
  base : B ≤ G
  ht : w.ownsRow B K.eT 1 tv (recs.map (·.1)).length (recs.map (·.1))
  hx : w.ownsRow B K.eL K.sz xv (recs.map (·.2)).length (fl (recs.map (·.2)))
  hf : ∀ r ∈ recs, FullG K.sz w r.1 r.2
  hs : ∀ r ∈ recs, ∀ g, r.1.ownBlock = some g → g < w.heap.size ∧ g ≠ G ∧ tv.ownBlock ≠ some g ∧ xv.ownBlock ≠ some g
  tG : tv.ownBlock ≠ some G
  xG : xv.ownBlock ≠ some G
  tx : ∀ g, tv.ownBlock = some g → xv.ownBlock ≠ some g
  mrk : ∀ r ∈ recs, M r.2
theorem BkV.start {K : Kd} {M : List Value → Prop} {B : Nat} {w : World} {G : Nat} {cs : Array Value} {tv xv : Value} {recs : List (Value × List Value)} (I : BkV K M B w G cs tv xv recs) {lv : Value} {nl : Nat} {ls : List (List Value)} (hl : w.ownsRow B K.eL K.sz lv nl (fl ls)) (hlG : lv.ownBlock ≠ some G) (hln : ∀ k, lv.ownBlock = some k → ¬ InB tv xv recs k) :
    StG K (FreeB w G tv xv recs lv) B w w G cs tv xv (recs.map (·.1)) (recs.map (·.2)) recs lv nl ls ∧ Marked M (FreeB w G tv xv recs lv) recs := by
  refine ⟨⟨I.bk, I.base, I.ht, I.hx, hl, I.hf, fun r hr g hg => ?_, I.tG, I.xG, hlG, I.tx, fun g h h2 => hln g h2 (.inl h), fun g h h2 => hln g h2 (.inr (.inl h)), Below.refl _ _, fun k hk => ?_⟩, fun r hr => ⟨I.mrk r hr, fun k hk h => hk.2.2.1 (.inr (.inr ⟨r, hr, h⟩))⟩⟩
  · obtain ⟨h1, h2, h3, h4⟩ := I.hs r hr g hg
    exact ⟨h1, h2, h3, h4, fun h => absurd (.inr (.inr ⟨r, hr, hg⟩)) (hln g h)⟩
  · exact ⟨hk.1, rfl, hk.2.1, fun h => hk.2.2.1 (.inl h), fun h => hk.2.2.1 (.inr (.inl h)), hk.2.2.2⟩
theorem StG.stop {K : Kd} {M : List Value → Prop} {P : Nat → Prop} {B : Nat} {w0 w : World} {G : Nat} {cs : Array Value} {tv xv : Value} {recs : List (Value × List Value)} (S : StG K P B w0 w G cs tv xv (recs.map (·.1)) (recs.map (·.2)) recs (.slice none 0 0) 0 []) (hm : Marked M P recs) :
    BkV K M B w G cs tv xv recs ∧ ∀ k, P k → k < w.heap.size ∧ w.heap[k]? = w0.heap[k]? ∧ ¬ InB tv xv recs k := by
  refine ⟨⟨S.bk, S.base, S.ht, S.hx, S.hf, fun r hr g hg => ?_, S.tG, S.xG, S.tx, fun r hr => (hm r hr).1⟩, fun k hk => ?_⟩
  · obtain ⟨h1, h2, h3, h4, _⟩ := S.hs r hr g hg
    exact ⟨h1, h2, h3, h4⟩
  · obtain ⟨h1, h2, _, h4, h5, _⟩ := S.pr k hk
    refine ⟨h1, h2, ?_⟩
    rintro (h | h | ⟨r, hr, h⟩)
    · exact h4 h
    · exact h5 h
    · exact (hm r hr).2 k hk h
theorem own_sameB {w w' : World} {B : Nat} {e : TypeId} {s : Nat} {v : Value} {n : Nat} {xs : List Value} (h : w.ownsRow B e s v n xs) (hk : ∀ k, v.ownBlock = some k → w'.heap[k]? = w.heap[k]?) : w'.ownsRow B e s v n xs := by
  obtain ⟨h1, h2⟩ := h
  refine ⟨h1, ?_⟩
  rcases h2 with h2 | ⟨g, cap, cur, rfl, h3, h4, h5⟩
  · exact .inl h2
  · exact .inr ⟨g, cap, cur, rfl, h3, (hk g rfl).trans h4, h5⟩
theorem cell_sameB {w w' : World} {g j : Nat} (h : w'.heap[g]? = w.heap[g]?) : w'.cell? ⟨g, j, none⟩ = w.cell? ⟨g, j, none⟩ := by
  exact World.cell?_of_block h
theorem BkV.other {K : Kd} {M : List Value → Prop} {B : Nat} {w : World} {G : Nat} {cs : Array Value} {tv xv : Value} {recs : List (Value × List Value)} (I : BkV K M B w G cs tv xv recs) {w' : World} {cs' : Array Value} (hob : ObK K w' G cs' tv xv) (hk : ∀ k, InB tv xv recs k → w'.heap[k]? = w.heap[k]?) (hsz : w.heap.size ≤ w'.heap.size) : BkV K M B w' G cs' tv xv recs := by
  refine ⟨hob, I.base, own_sameB I.ht fun k h => hk k (.inl h), own_sameB I.hx fun k h => hk k (.inr (.inl h)), fun r hr => (I.hf r hr).keep fun g j hg _ => cell_sameB (hk g (.inr (.inr ⟨r, hr, hg⟩))), fun r hr g hg => ?_, I.tG, I.xG, I.tx, I.mrk⟩
  obtain ⟨h1, h2⟩ := I.hs r hr g hg
  exact ⟨Nat.lt_of_lt_of_le h1 hsz, h2⟩
/-- A world that grew, and changed no block. -/
theorem BkV.later {K : Kd} {M : List Value → Prop} {B : Nat} {w : World} {G : Nat} {cs : Array Value} {tv xv : Value} {recs : List (Value × List Value)} (I : BkV K M B w G cs tv xv recs) {w' : World} (hb : Below w.heap.size w w') : BkV K M B w' G cs tv xv recs :=
  I.other (I.bk.same (hb.block G I.bk.lt)) (fun k h => hb.block k (by
    rcases h with h | h | ⟨r, hr, h⟩
    · exact (I.ht.lt k h).2
    · exact (I.hx.lt k h).2
    · exact (I.hs r hr k h).1)) hb.size
theorem BkV.inB_lt {K : Kd} {M : List Value → Prop} {B : Nat} {w : World} {G : Nat} {cs : Array Value} {tv xv : Value} {recs : List (Value × List Value)} (I : BkV K M B w G cs tv xv recs) {k : Nat} (h : InB tv xv recs k) : k < w.heap.size ∧ k ≠ G := by
  rcases h with h | h | ⟨r, hr, h⟩
  · exact ⟨(I.ht.lt k h).2, fun e => I.tG (by rw [← e]; exact h)⟩
  · exact ⟨(I.hx.lt k h).2, fun e => I.xG (by rw [← e]; exact h)⟩
  · exact ⟨(I.hs r hr k h).1, (I.hs r hr k h).2.1⟩
/-- Behind a call of one kind, another kind stands as it was, and apart. -/
theorem BkV.beside {KA KB : Kd} {M : List Value → Prop} {B : Nat} {w : World} {G o n : Nat} {cs : Array Value} {tA xA tB xB : Value} {rA rB : List (Value × List Value)} {lv : Value} (I : BkV KB M B w G cs tB xB rB) (hty : KB.ty = KA.ty) (h1 : KB.i1 ≠ o ∧ KB.i1 ≠ KA.i1 ∧ KB.i1 ≠ KA.i2) (h2 : KB.i2 ≠ o ∧ KB.i2 ≠ KA.i1 ∧ KB.i2 ≠ KA.i2)
    {w' : World} {cs' : Array Value} {tA' xA' : Value} {rA' : List (Value × List Value)} (hob : ObK KA w' G cs' tA' xA') (hc : CsK KA o cs cs' n) (hfree : ∀ k, FreeB w G tA xA rA lv k → k < w'.heap.size ∧ w'.heap[k]? = w.heap[k]? ∧ ¬ InB tA' xA' rA' k) (hdis : ∀ k, InB tB xB rB k → ¬ InB tA xA rA k) (hlv : ∀ k, InB tB xB rB k → lv.ownBlock ≠ some k) (hsz : w.heap.size ≤ w'.heap.size) :
    BkV KB M B w' G cs' tB xB rB ∧ ∀ k, InB tB xB rB k → ¬ InB tA' xA' rA' k := by
  have hF : ∀ k, InB tB xB rB k → FreeB w G tA xA rA lv k := fun k hk => ⟨(I.inB_lt hk).1, (I.inB_lt hk).2, hdis k hk, hlv k hk⟩
  refine ⟨I.other ⟨?_, ?_, ?_, I.bk.2.2.2⟩ (fun k hk => (hfree k (hF k hk)).2.1) hsz, fun k hk => (hfree k (hF k hk)).2.2⟩
  · rw [hty]; exact hob.1
  · rw [hc.other _ h1.1 h1.2.1 h1.2.2]; exact I.bk.2.1
  · rw [hc.other _ h2.1 h2.2.1 h2.2.2]; exact I.bk.2.2.1
end Go.Proofs.YtanfolfopalbeaaDoor
namespace Go.Proofs.YtanfolfopalbeaaDoor
open Go.RowKit

/-- What holds of the book between the calls. -/
structure Bk3 (ty : TypeId) (o B : Nat) (w : World) (G : Nat) (cs : Array Value) (n : Nat) (tT xT tS xS tP xP : Value) (rT rS rP : List (Value × List Value)) : Prop where
  T : BkV (Kt ty o) Mt B w G cs tT xT rT
  S : BkV (Ks ty o) Ms B w G cs tS xS rS
  P : BkV (Kp ty o) Mp B w G cs tP xP rP
  num : cs[o]? = some (.int .i64 (n : Int))
  d3 : cs[o + 3]? = some (.slice none 0 0)
  st : ∀ k, InB tS xS rS k → ¬ InB tT xT rT k
  pt : ∀ k, InB tP xP rP k → ¬ InB tT xT rT k
  ps : ∀ k, InB tP xP rP k → ¬ InB tS xS rS k
def InK (tT xT tS xS tP xP : Value) (rT rS rP : List (Value × List Value)) (k : Nat) : Prop := InB tT xT rT k ∨ InB tS xS rS k ∨ InB tP xP rP k
/-- The book, its lists not more than m of a kind, the blocks of Q not among its own. -/
def Bk3E (ty : TypeId) (o B : Nat) (w : World) (G : Nat) (cs : Array Value) (n m : Nat) (Q : Nat → Prop) : Prop :=
  ∃ tT xT tS xS tP xP rT rS rP, Bk3 ty o B w G cs n tT xT tS xS tP xP rT rS rP ∧ rT.length ≤ m ∧ rS.length ≤ m ∧ rP.length ≤ m ∧ ∀ k, Q k → k < w.heap.size ∧ k ≠ G ∧ ¬ InK tT xT tS xS tP xP rT rS rP k
theorem Bk3.later {ty : TypeId} {o B : Nat} {w : World} {G : Nat} {cs : Array Value} {n : Nat} {tT xT tS xS tP xP : Value} {rT rS rP : List (Value × List Value)} (h : Bk3 ty o B w G cs n tT xT tS xS tP xP rT rS rP) {w' : World} (hb : Below w.heap.size w w') : Bk3 ty o B w' G cs n tT xT tS xS tP xP rT rS rP :=
  ⟨h.T.later hb, h.S.later hb, h.P.later hb, h.num, h.d3, h.st, h.pt, h.ps⟩
theorem Bk3.inK_lt {ty : TypeId} {o B : Nat} {w : World} {G : Nat} {cs : Array Value} {n : Nat} {tT xT tS xS tP xP : Value} {rT rS rP : List (Value × List Value)} (h : Bk3 ty o B w G cs n tT xT tS xS tP xP rT rS rP) {k : Nat} (hk : InK tT xT tS xS tP xP rT rS rP k) : k < w.heap.size ∧ k ≠ G := by
  rcases hk with hk | hk | hk
  · exact h.T.inB_lt hk
  · exact h.S.inB_lt hk
  · exact h.P.inB_lt hk

theorem strings3 (ty : TypeId) (o B : Nat) (w : World) (G : Nat) (cs : Array Value) (n m : Nat) (Q Q' : Nat → Prop) (h : Bk3E ty o B w G cs n m Q) (lv : Value) (nl : Nat) (ls : List (List Value)) (hl : w.ownsRow B 9 1 lv nl (fl ls)) (hlQ : ∀ k, lv.ownBlock = some k → Q k) (hnl : nl ≤ 1000) (hll : ls.length = nl) (hl32 : ∀ d ∈ ls, d.length = 1)
    (hQ : ∀ k, Q' k → Q k ∧ lv.ownBlock ≠ some k) (hn : n ≤ 1099511627776) (hm : m ≤ 1099511627776) :
    Calls Tryd.prog 73 #[.pointer (some ⟨G, o, none⟩), lv] w fun e w' => ∃ cs', Bk3E ty o B w' G cs' (n + 1) (m + 4) Q' ∧ (∀ j, j < o → cs'[j]? = cs[j]?) ∧ (∀ k, Q' k → w'.heap[k]? = w.heap[k]?) ∧ Below B w w' ∧ e = .returned (.tuple #[]) := by
  obtain ⟨tT, xT, tS, xS, tP, xP, rT, rS, rP, H, hT, hS, hP, hq⟩ := h
  have hlK : ∀ k, InK tT xT tS xS tP xP rT rS rP k → lv.ownBlock ≠ some k := fun k hk e => (hq k (hlQ k e)).2.2 hk
  obtain ⟨S, M⟩ := H.T.start hl (fun e => (hq G (hlQ G e)).2.1 rfl) (fun k e hk => hlK k (.inl hk) e)
  refine (bKt_any ty o _ B G n cs _ _ w w rT lv nl ls S H.num hn hnl hll hl32 (by omega) (fun r hr g hg h2 => hlK g (.inl (.inr (.inr ⟨r, hr, h2⟩))) hg) M).mono ?_
  rintro e w' ⟨cs', tv', xv', recs', S', M', hlen, hcs, rfl⟩
  have J := S'.stop M'
  have hbel := S'.bel
  have hsz2 : w.heap.size ≤ w'.heap.size := hbel.size
  have D1 := H.S.beside (KA := Kt ty o) (o := o) rfl (by simp [Kt, Ks]) (by simp [Kt, Ks]) J.1.bk hcs J.2 H.st (fun k hk => hlK k (.inr (.inl hk))) hsz2
  have D2 := H.P.beside (KA := Kt ty o) (o := o) rfl (by simp [Kt, Kp]) (by simp [Kt, Kp]) J.1.bk hcs J.2 H.pt (fun k hk => hlK k (.inr (.inr hk))) hsz2
  have hf : ∀ k, Q' k → FreeB w G tT xT rT lv k ∧ ¬ InK tT xT tS xS tP xP rT rS rP k := by
    intro k hk
    obtain ⟨h2, h3⟩ := hQ k hk
    obtain ⟨h1, h4, h5⟩ := hq k h2
    exact ⟨⟨h1, h4, fun hi => h5 (.inl hi), h3⟩, h5⟩
  refine ⟨cs', ⟨tv', xv', tS, xS, tP, xP, recs', rS, rP, ⟨J.1, D1.1, D2.1, hcs.num, by rw [hcs.other _ (by simp) (by simp [Kt]) (by simp [Kt])]; exact H.d3, D1.2, D2.2, H.ps⟩, by rw [hlen]; omega, by omega, by omega, fun k hk => ?_⟩, fun j hj => hcs.other j (by omega) (by simp only [Kt]; omega) (by simp only [Kt]; omega), fun k hk => (J.2 k (hf k hk).1).2.1, hbel, rfl⟩
  refine ⟨(J.2 k (hf k hk).1).1, (hf k hk).1.2.1, ?_⟩
  rintro (hi | hi | hi)
  · exact (J.2 k (hf k hk).1).2.2 hi
  · exact (hf k hk).2 (.inr (.inl hi))
  · exact (hf k hk).2 (.inr (.inr hi))

theorem disk3 (ty : TypeId) (o B : Nat) (w : World) (G : Nat) (cs : Array Value) (n m : Nat) (Q Q' : Nat → Prop) (h : Bk3E ty o B w G cs n m Q) (lv : Value) (nl : Nat) (ls : List (List Value)) (hl : w.ownsRow B 126 32 lv nl (fl ls)) (hlQ : ∀ k, lv.ownBlock = some k → Q k) (hnl : nl ≤ 1000) (hll : ls.length = nl) (hl32 : ∀ d ∈ ls, d.length = 32)
    (hQ : ∀ k, Q' k → Q k ∧ lv.ownBlock ≠ some k) (hn : n ≤ 1099511627776) (hm : m ≤ 1099511627776) :
    Calls Tryd.prog 71 #[.pointer (some ⟨G, o, none⟩), lv] w fun e w' => ∃ cs', Bk3E ty o B w' G cs' (n + 1) (m + 4) Q' ∧ (∀ j, j < o → cs'[j]? = cs[j]?) ∧ (∀ k, Q' k → w'.heap[k]? = w.heap[k]?) ∧ Below B w w' ∧ e = .returned (.tuple #[]) := by
  obtain ⟨tT, xT, tS, xS, tP, xP, rT, rS, rP, H, hT, hS, hP, hq⟩ := h
  have hlK : ∀ k, InK tT xT tS xS tP xP rT rS rP k → lv.ownBlock ≠ some k := fun k hk e => (hq k (hlQ k e)).2.2 hk
  obtain ⟨S, M⟩ := H.S.start hl (fun e => (hq G (hlQ G e)).2.1 rfl) (fun k e hk => hlK k (.inr (.inl hk)) e)
  refine (bKs_any ty o _ B G n cs _ _ w w rS lv nl ls S H.num hn hnl hll hl32 (by omega) (fun r hr g hg h2 => hlK g (.inr (.inl (.inr (.inr ⟨r, hr, h2⟩)))) hg) M).mono ?_
  rintro e w' ⟨cs', tv', xv', recs', S', M', hlen, hcs, rfl⟩
  have J := S'.stop M'
  have hbel := S'.bel
  have hsz2 : w.heap.size ≤ w'.heap.size := hbel.size
  have D1 := H.T.beside (KA := Ks ty o) (o := o) rfl (by simp [Ks, Kt]) (by simp [Ks, Kt]) J.1.bk hcs J.2 (fun k h1 h2 => H.st k h2 h1) (fun k hk => hlK k (.inl hk)) hsz2
  have D2 := H.P.beside (KA := Ks ty o) (o := o) rfl (by simp [Ks, Kp]) (by simp [Ks, Kp]) J.1.bk hcs J.2 H.ps (fun k hk => hlK k (.inr (.inr hk))) hsz2
  have hf : ∀ k, Q' k → FreeB w G tS xS rS lv k ∧ ¬ InK tT xT tS xS tP xP rT rS rP k := by
    intro k hk
    obtain ⟨h2, h3⟩ := hQ k hk
    obtain ⟨h1, h4, h5⟩ := hq k h2
    exact ⟨⟨h1, h4, fun hi => h5 (.inr (.inl hi)), h3⟩, h5⟩
  refine ⟨cs', ⟨tT, xT, tv', xv', tP, xP, rT, recs', rP, ⟨D1.1, J.1, D2.1, hcs.num, by rw [hcs.other _ (by simp) (by simp [Ks]) (by simp [Ks])]; exact H.d3, (fun k h1 h2 => D1.2 k h2 h1), H.pt, D2.2⟩, by omega, by rw [hlen]; omega, by omega, fun k hk => ?_⟩, fun j hj => hcs.other j (by omega) (by simp only [Ks]; omega) (by simp only [Ks]; omega), fun k hk => (J.2 k (hf k hk).1).2.1, hbel, rfl⟩
  refine ⟨(J.2 k (hf k hk).1).1, (hf k hk).1.2.1, ?_⟩
  rintro (hi | hi | hi)
  · exact (hf k hk).2 (.inl hi)
  · exact (J.2 k (hf k hk).1).2.2 hi
  · exact (hf k hk).2 (.inr (.inr hi))

theorem plan3 (ty : TypeId) (o B : Nat) (w : World) (G : Nat) (cs : Array Value) (n m : Nat) (Q Q' : Nat → Prop) (h : Bk3E ty o B w G cs n m Q) (lv : Value) (nl : Nat) (ls : List (List Value)) (hl : w.ownsRow B 131 34 lv nl (fl ls)) (hlQ : ∀ k, lv.ownBlock = some k → Q k) (hnl : nl ≤ 1000) (hll : ls.length = nl) (hl32 : ∀ d ∈ ls, d.length = 34)
    (hQ : ∀ k, Q' k → Q k ∧ lv.ownBlock ≠ some k) (hn : n ≤ 1099511627776) (hm : m ≤ 1099511627776) :
    Calls Tryd.prog 79 #[.pointer (some ⟨G, o, none⟩), lv] w fun e w' => ∃ cs', Bk3E ty o B w' G cs' (n + 1) (m + 4) Q' ∧ (∀ j, j < o → cs'[j]? = cs[j]?) ∧ (∀ k, Q' k → w'.heap[k]? = w.heap[k]?) ∧ Below B w w' ∧ e = .returned (.tuple #[]) := by
  obtain ⟨tT, xT, tS, xS, tP, xP, rT, rS, rP, H, hT, hS, hP, hq⟩ := h
  have hlK : ∀ k, InK tT xT tS xS tP xP rT rS rP k → lv.ownBlock ≠ some k := fun k hk e => (hq k (hlQ k e)).2.2 hk
  obtain ⟨S, M⟩ := H.P.start hl (fun e => (hq G (hlQ G e)).2.1 rfl) (fun k e hk => hlK k (.inr (.inr hk)) e)
  refine (bKp_any ty o _ B G n cs _ _ w w rP lv nl ls S H.num hn hnl hll hl32 (by omega) (fun r hr g hg h2 => hlK g (.inr (.inr (.inr (.inr ⟨r, hr, h2⟩)))) hg) M).mono ?_
  rintro e w' ⟨cs', tv', xv', recs', S', M', hlen, hcs, rfl⟩
  have J := S'.stop M'
  have hbel := S'.bel
  have hsz2 : w.heap.size ≤ w'.heap.size := hbel.size
  have D1 := H.T.beside (KA := Kp ty o) (o := o) rfl (by simp [Kp, Kt]) (by simp [Kp, Kt]) J.1.bk hcs J.2 (fun k h1 h2 => H.pt k h2 h1) (fun k hk => hlK k (.inl hk)) hsz2
  have D2 := H.S.beside (KA := Kp ty o) (o := o) rfl (by simp [Kp, Ks]) (by simp [Kp, Ks]) J.1.bk hcs J.2 (fun k h1 h2 => H.ps k h2 h1) (fun k hk => hlK k (.inr (.inl hk))) hsz2
  have hf : ∀ k, Q' k → FreeB w G tP xP rP lv k ∧ ¬ InK tT xT tS xS tP xP rT rS rP k := by
    intro k hk
    obtain ⟨h2, h3⟩ := hQ k hk
    obtain ⟨h1, h4, h5⟩ := hq k h2
    exact ⟨⟨h1, h4, fun hi => h5 (.inr (.inr hi)), h3⟩, h5⟩
  refine ⟨cs', ⟨tT, xT, tS, xS, tv', xv', rT, rS, recs', ⟨D1.1, D2.1, J.1, hcs.num, by rw [hcs.other _ (by simp) (by simp [Kp]) (by simp [Kp])]; exact H.d3, H.st, (fun k h1 h2 => D1.2 k h2 h1), (fun k h1 h2 => D2.2 k h2 h1)⟩, by omega, by omega, by rw [hlen]; omega, fun k hk => ?_⟩, fun j hj => hcs.other j (by omega) (by simp only [Kp]; omega) (by simp only [Kp]; omega), fun k hk => (J.2 k (hf k hk).1).2.1, hbel, rfl⟩
  refine ⟨(J.2 k (hf k hk).1).1, (hf k hk).1.2.1, ?_⟩
  rintro (hi | hi | hi)
  · exact (hf k hk).2 (.inl hi)
  · exact (hf k hk).2 (.inr (.inl hi))
  · exact (J.2 k (hf k hk).1).2.2 hi
theorem holds3 (ty : TypeId) (o B : Nat) (w : World) (G : Nat) (cs : Array Value) (n m : Nat) (Q : Nat → Prop) (h : Bk3E ty o B w G cs n m Q) (hm : m ≤ 1099511627776) :
    Calls Tryd.prog 26 #[.pointer (some ⟨G, o, none⟩)] w fun e w' => e = .returned (.bool true) ∧ Below w.heap.size w w' := by
  obtain ⟨tT, xT, tS, xS, tP, xP, rT, rS, rP, H, hT, hS, hP, _⟩ := h
  have hn : ∀ (k : Nat) (x : Prop), (Value.slice none 0 0).ownBlock = some k → x := fun k x h => nomatch h
  obtain ⟨S1, M1⟩ := H.T.start (lv := .slice none 0 0) (nl := 0) (ls := []) (World.ownsRow_nil _ _ _ _) (fun h => hn _ _ h) (fun k h => hn _ _ h)
  obtain ⟨S2, M2⟩ := H.S.start (lv := .slice none 0 0) (nl := 0) (ls := []) (World.ownsRow_nil _ _ _ _) (fun h => hn _ _ h) (fun k h => hn _ _ h)
  obtain ⟨S3, M3⟩ := H.P.start (lv := .slice none 0 0) (nl := 0) (ls := []) (World.ownsRow_nil _ _ _ _) (fun h => hn _ _ h) (fun k h => hn _ _ h)
  exact holdsG_any ty o _ _ _ B B B G cs _ _ _ _ _ _ w w w w rS rP rT S2 S3 S1 M2 M3 M1 (by omega) (by omega) (by omega) H.d3
theorem Bk3E.later {ty : TypeId} {o B : Nat} {w : World} {G : Nat} {cs : Array Value} {n m : Nat} {Q Q' : Nat → Prop} (h : Bk3E ty o B w G cs n m Q) {w' : World} (hb : Below w.heap.size w w') (hQ : ∀ k, Q' k → k < w'.heap.size ∧ (Q k ∨ w.heap.size ≤ k)) : Bk3E ty o B w' G cs n m Q' := by
  obtain ⟨tT, xT, tS, xS, tP, xP, rT, rS, rP, H, hT, hS, hP, hq⟩ := h
  refine ⟨tT, xT, tS, xS, tP, xP, rT, rS, rP, H.later hb, hT, hS, hP, fun k hk => ?_⟩
  obtain ⟨h1, h2⟩ := hQ k hk
  rcases h2 with h2 | h2
  · exact ⟨h1, (hq k h2).2⟩
  · have hG := H.T.bk.lt
    exact ⟨h1, by omega, fun hi => by have := (H.inK_lt hi).1; omega⟩
end Go.Proofs.YtanfolfopalbeaaDoor
namespace Go.Proofs.YtanfolfopalbeaaDoor
open Go.RowKit

theorem heap_setCell_far (w : World) (G j k : Nat) (x : Value) (hk : k < w.heap.size) (h : k ≠ G) : (w.setCell ⟨G, j, none⟩ x).heap[k]? = w.heap[k]? :=
  (grown_setCell (grown_refl w (some G)) ⟨G, j, none⟩ x (.inl rfl)).block k hk (fun e => h (by injection e))
theorem BkV.set {K : Kd} {M : List Value → Prop} {B : Nat} {w : World} {G : Nat} {cs : Array Value} {tv xv : Value} {recs : List (Value × List Value)} (I : BkV K M B w G cs tv xv recs) (j : Nat) (x : Value) (h1 : j ≠ K.i1) (h2 : j ≠ K.i2) : BkV K M B (w.setCell ⟨G, j, none⟩ x) G (cs.setIfInBounds j x) tv xv recs := by
  refine I.other ⟨heap_setCell_same w G _ _ _ _ I.bk.1, ?_, ?_, I.bk.2.2.2⟩ (fun k hk => heap_setCell_far w G j k x (I.inB_lt hk).1 (I.inB_lt hk).2) (by simp [World.setCell])
  · rw [Array.getElem?_setIfInBounds, if_neg h1]; exact I.bk.2.1
  · rw [Array.getElem?_setIfInBounds, if_neg h2]; exact I.bk.2.2.1
theorem Bk3E.set {ty : TypeId} {o B : Nat} {w : World} {G : Nat} {cs : Array Value} {n m : Nat} {Q : Nat → Prop} (h : Bk3E ty o B w G cs n m Q) (j : Nat) (x : Value) (hj : j < o) : Bk3E ty o B (w.setCell ⟨G, j, none⟩ x) G (cs.setIfInBounds j x) n m Q := by
  obtain ⟨tT, xT, tS, xS, tP, xP, rT, rS, rP, H, hT, hS, hP, hq⟩ := h
  refine ⟨tT, xT, tS, xS, tP, xP, rT, rS, rP, ⟨H.T.set j x (by simp only [Kt]; omega) (by simp only [Kt]; omega), H.S.set j x (by simp only [Ks]; omega) (by simp only [Ks]; omega), H.P.set j x (by simp only [Kp]; omega) (by simp only [Kp]; omega), ?_, ?_, H.st, H.pt, H.ps⟩, hT, hS, hP, fun k hk => ?_⟩
  · rw [Array.getElem?_setIfInBounds, if_neg (by omega)]; exact H.num
  · rw [Array.getElem?_setIfInBounds, if_neg (by omega)]; exact H.d3
  · obtain ⟨h1, h2⟩ := hq k hk
    exact ⟨by simpa [World.setCell] using h1, h2⟩
theorem inB_nil (k : Nat) : ¬ InB (.slice none 0 0) (.slice none 0 0) [] k := by
  rintro (h | h | ⟨r, hr, _⟩)
  · cases h
  · cases h
  · cases hr
theorem BkV.nil (K : Kd) (M : List Value → Prop) (B : Nat) (w : World) (G : Nat) (cs : Array Value) (hG : w.heap[G]? = some (.cells cs K.ty (0, 0))) (hB : B ≤ G) (h1 : cs[K.i1]? = some (.slice none 0 0)) (h2 : cs[K.i2]? = some (.slice none 0 0)) (h3 : K.i1 ≠ K.i2) : BkV K M B w G cs (.slice none 0 0) (.slice none 0 0) [] :=
  ⟨⟨hG, h1, h2, h3⟩, hB, World.ownsRow_nil _ _ _ _, World.ownsRow_nil _ _ _ _, (fun _ hr => nomatch hr), (fun _ hr => nomatch hr), (fun h => nomatch h), (fun h => nomatch h), (fun _ h => nomatch h), (fun _ hr => nomatch hr)⟩
theorem Bk3E.nil (ty : TypeId) (o B : Nat) (w : World) (G : Nat) (cs : Array Value) (Q : Nat → Prop) (hG : w.heap[G]? = some (.cells cs ty (0, 0))) (hB : B ≤ G) (h0 : cs[o]? = some (.int .i64 0)) (hs : ∀ j, 1 ≤ j → j ≤ 8 → cs[o + j]? = some (.slice none 0 0)) (hQ : ∀ k, Q k → k < w.heap.size ∧ k ≠ G) : Bk3E ty o B w G cs 0 0 Q := by
  refine ⟨_, _, _, _, _, _, [], [], [], ⟨BkV.nil (Kt ty o) Mt B w G cs hG hB (hs 1 (by omega) (by omega)) (hs 2 (by omega) (by omega)) (by simp [Kt]), BkV.nil (Ks ty o) Ms B w G cs hG hB (hs 5 (by omega) (by omega)) (hs 6 (by omega) (by omega)) (by simp [Ks]), BkV.nil (Kp ty o) Mp B w G cs hG hB (hs 7 (by omega) (by omega)) (hs 8 (by omega) (by omega)) (by simp [Kp]), h0, hs 3 (by omega) (by omega), fun k _ => inB_nil k, fun k _ => inB_nil k, fun k _ => inB_nil k⟩, Nat.le_refl _, Nat.le_refl _, Nat.le_refl _, fun k hk => ⟨(hQ k hk).1, (hQ k hk).2, ?_⟩⟩
  rintro (h | h | h) <;> exact inB_nil k h
end Go.Proofs.YtanfolfopalbeaaDoor
namespace Go.Proofs.YtanfolfopalbeaaDoor
open Go.RowKit

/-- The heaps t (the last one first) are those of the log xs; each has at least L entries. -/
def Stk : List ByteArray → List (Nat × List UInt8) → Nat → Prop
  | xs, [], _ => xs = []
  | xs, (n, r) :: t, L => (∃ j, n = 2 ^ j) ∧ L ≤ n ∧ n ≤ xs.length ∧ r = rootL (xs.drop (xs.length - n)) ∧ Stk (xs.take (xs.length - n)) t (n + 1)

theorem pow_next {i j : Nat} (h : 2 ^ j + 1 ≤ 2 ^ i) : 2 ^ j + 2 ^ j ≤ 2 ^ i := by
  have hij : j < i := by
    apply Decidable.byContradiction
    intro hn
    have := Nat.pow_le_pow_right (n := 2) (by decide) (show i ≤ j by omega)
    omega
  have := Nat.pow_le_pow_right (n := 2) (by decide) (show j + 1 ≤ i by omega)
  rw [Nat.pow_succ] at this
  omega
theorem Stk.up {xs : List ByteArray} {t : List (Nat × List UInt8)} {n : Nat} (hn : ∃ j, n = 2 ^ j) (h : Stk xs t (n + 1)) : Stk xs t (n + n) := by
  cases t with
  | nil => exact h
  | cons p t =>
    obtain ⟨m, r⟩ := p
    obtain ⟨hj, h1, h2, h3, h4⟩ := h
    obtain ⟨j, rfl⟩ := hn
    obtain ⟨i, rfl⟩ := hj
    exact ⟨⟨i, rfl⟩, pow_next h1, h2, h3, h4⟩
theorem Stk.low {xs : List ByteArray} {t : List (Nat × List UInt8)} {L L' : Nat} (h : Stk xs t L) (hl : L' ≤ L) : Stk xs t L' := by
  cases t with
  | nil => exact h
  | cons p t =>
    obtain ⟨m, r⟩ := p
    obtain ⟨hj, h1, h2⟩ := h
    exact ⟨hj, Nat.le_trans hl h1, h2⟩
theorem Stk.len {xs : List ByteArray} {t : List (Nat × List UInt8)} {L : Nat} (h : Stk xs t L) : t.length ≤ xs.length := by
  induction t generalizing xs L with
  | nil => exact Nat.zero_le _
  | cons p t ih =>
    obtain ⟨m, r⟩ := p
    obtain ⟨⟨j, rfl⟩, h1, h2, h3, h4⟩ := h
    have := ih h4
    rw [List.length_take] at this
    have hp := Nat.two_pow_pos j
    simp only [List.length_cons]
    omega
theorem Stk.elem {xs : List ByteArray} {t : List (Nat × List UInt8)} {L : Nat} (h : Stk xs t L) : ∀ p ∈ t, p.2.length = 32 ∧ p.1 ≤ xs.length := by
  induction t generalizing xs L with
  | nil => intro p hp; cases hp
  | cons q t ih =>
    obtain ⟨m, r⟩ := q
    obtain ⟨hj, h1, h2, h3, h4⟩ := h
    intro p hp
    rcases List.mem_cons.1 hp with rfl | hp
    · exact ⟨by rw [h3]; exact rootL_length _, h2⟩
    · have := ih h4 p hp
      rw [List.length_take] at this
      exact ⟨this.1, by omega⟩
/-- The log A ++ S: the heaps of A, and beside them one of S. -/
def Car (xs : List ByteArray) (t : List (Nat × List UInt8)) (n : Nat) (r : List UInt8) : Prop :=
  ∃ A S, xs = A ++ S ∧ S.length = n ∧ (∃ j, n = 2 ^ j) ∧ r = rootL S ∧ Stk A t n
theorem car_start {xs : List ByteArray} {t : List (Nat × List UInt8)} (x : ByteArray) (h : Stk xs t 1) : Car (xs ++ [x]) t 1 (lf x) :=
  ⟨xs, [x], rfl, rfl, ⟨0, rfl⟩, by rw [rootL_one [x] rfl]; rfl, h⟩
theorem root_join (A S : List ByteArray) (n : Nat) (hn : ∃ j, n = 2 ^ j) (hA : A.length = n) (hS : 0 < S.length) (hS2 : S.length ≤ n) : rootL (A ++ S) = nd (rootL A) (rootL S) := by
  obtain ⟨j, rfl⟩ := hn
  have hp := Nat.two_pow_pos j
  have hl : (A ++ S).length = 2 ^ j + S.length := by rw [List.length_append, hA]
  rw [rootL_two _ (by omega), hl, half_of _ j (by omega) (by omega), List.take_left' hA, List.drop_left' hA]
theorem car_step {xs : List ByteArray} {t : List (Nat × List UInt8)} {n : Nat} {r q : List UInt8} (h : Car xs ((n, r) :: t) n q) : Car xs t (2 * n) (nd r q) := by
  obtain ⟨A, S, hx, hl, hn, hq, hj, h1, h2, h3, h4⟩ := h
  have hp : 0 < n := by obtain ⟨j, rfl⟩ := hn; exact Nat.two_pow_pos j
  refine ⟨A.take (A.length - n), A.drop (A.length - n) ++ S, by rw [← List.append_assoc, List.take_append_drop, hx], by rw [List.length_append, List.length_drop]; omega, ?_, ?_, ?_⟩
  · obtain ⟨j, rfl⟩ := hn
    exact ⟨j + 1, by rw [Nat.pow_succ]; omega⟩
  · rw [root_join _ S n hn (by rw [List.length_drop]; omega) (by omega) (by omega), h3, hq]
  · have := h4.up hn
    rwa [show n + n = 2 * n by omega] at this
theorem car_end {xs : List ByteArray} {t : List (Nat × List UInt8)} {n : Nat} {q : List UInt8} (h : Car xs t n q) (hne : ∀ m r t', t = (m, r) :: t' → m ≠ n) : Stk xs ((n, q) :: t) 1 := by
  obtain ⟨A, S, hx, hl, hn, hq, hs⟩ := h
  have hp : 0 < n := by obtain ⟨j, rfl⟩ := hn; exact Nat.two_pow_pos j
  have hlen : xs.length - n = A.length := by rw [hx, List.length_append]; omega
  refine ⟨hn, hp, by rw [hx, List.length_append]; omega, ?_, ?_⟩
  · rw [hlen, hx, List.drop_left' rfl, hq]
  · rw [hlen, hx, List.take_left' rfl]
    cases t with
    | nil => exact hs
    | cons p t =>
      obtain ⟨m, r⟩ := p
      obtain ⟨hj, h1, h2⟩ := hs
      have := hne m r t rfl
      exact ⟨hj, by omega, h2⟩
/-- What is gathered from the heaps. -/
def gather (q : List UInt8) (t : List (Nat × List UInt8)) : List UInt8 := t.foldl (fun r p => nd p.2 r) q
theorem gather_root : ∀ (t : List (Nat × List UInt8)) (A S : List ByteArray) (L : Nat), Stk A t L → 0 < S.length → S.length ≤ L → gather (rootL S) t = rootL (A ++ S) := by
  intro t
  induction t with
  | nil =>
    intro A S L h _ _
    have h0 : A = [] := h
    rw [h0]
    rfl
  | cons p t ih =>
    intro A S L h h0 hL
    obtain ⟨n, r⟩ := p
    obtain ⟨hn, h1, h2, h3, h4⟩ := h
    have := ih (A.take (A.length - n)) (A.drop (A.length - n) ++ S) (n + n) (h4.up hn) (by rw [List.length_append]; omega) (by rw [List.length_append, List.length_drop]; omega)
    rw [← List.append_assoc, List.take_append_drop, root_join _ S n hn (by rw [List.length_drop]; omega) h0 (by omega), ← h3] at this
    exact this
theorem gather_all {xs : List ByteArray} {t : List (Nat × List UInt8)} {n : Nat} {q : List UInt8} (h : Stk xs ((n, q) :: t) 1) : gather q t = rootL xs := by
  obtain ⟨hn, h1, h2, h3, h4⟩ := h
  have := gather_root t (xs.take (xs.length - n)) (xs.drop (xs.length - n)) (n + n) (h4.up hn) (by rw [List.length_drop]; omega) (by rw [List.length_drop]; omega)
  rw [List.take_append_drop, ← h3] at this
  exact this
end Go.Proofs.YtanfolfopalbeaaDoor
namespace Go.Proofs.YtanfolfopalbeaaDoor
open Go.RowKit

/-- The cells of a heap, of a list of them. -/
def hc (p : Nat × List UInt8) : List Value := .int .i64 (p.1 : Int) :: bcells p.2
def hcs (l : List (Nat × List UInt8)) : List Value := l.flatMap hc
theorem hc_length (p : Nat × List UInt8) (h : p.2.length = 32) : (hc p).length = 33 := by simp [hc, bcells, h]
theorem hcs_snoc (l : List (Nat × List UInt8)) (p : Nat × List UInt8) : hcs (l ++ [p]) = hcs l ++ hc p := by simp [hcs]
theorem hcs_length (l : List (Nat × List UInt8)) (h : ∀ p ∈ l, p.2.length = 32) : (hcs l).length = l.length * 33 := by
  induction l with
  | nil => rfl
  | cons a r ih =>
    have h2 := ih (fun p hp => h p (by simp [hp]))
    have h1 := hc_length a (h a (by simp))
    unfold hcs at h2 ⊢
    rw [List.flatMap_cons, List.length_append, h2, List.length_cons, h1]
    omega
theorem hc_one (p : Nat × List UInt8) : ∀ u ∈ hc p, u.oneCell' = true := by
  intro u hu
  rcases List.mem_cons.1 hu with rfl | hu
  · rfl
  · exact bcells_one' p.2 u hu
def z33 : Nat × List UInt8 := (0, z32)
theorem info_heap : (Tryd.prog.info? 129).map (fun i => (i.zero, i.size, i.bytes)) = some (some (.agg (hc z33).toArray), 33, 40) := by kernel_rfl
theorem info_hp : (Tryd.prog.info? 129).map (·.size) = some 33 := by kernel_rfl
theorem v_hp (p : Nat × List UInt8) (h : p.2.length = 32) : (Tryd.prog.info? 129).map (·.size) = some (hc p).toArray.size := by rw [List.size_toArray, hc_length p h]; exact info_hp
theorem hc_all (p : Nat × List UInt8) : (hc p).toArray.all (·.oneCell') = true := Array.all_eq_true'.2 (fun v hv => hc_one p v (by simpa using hv))
theorem getD_take_succ (ss : List ByteArray) (k : Nat) (h : k < ss.length) : ss.take (k + 1) = ss.take k ++ [ss.getD k ByteArray.empty] := by
  rw [List.take_succ_eq_append_getElem h]
  simp [List.getD, List.getElem?_eq_getElem h]
theorem there_of_hrow {w : World} {g : Nat} {t : TypeId} {p : Nat × List UInt8} (h : w.heap[g]? = some (.cells (hc p).toArray t (0, 0))) (hd : p.2.length = 32) : w.there g 0 33 := fun j hj => by
  rw [Nat.zero_add]
  refine ⟨?_, frozen_of_row w g j _ _ h⟩
  rw [cell_of_row w g j _ _ _ h, List.getElem?_toArray, List.getElem?_eq_getElem (by rw [hc_length p hd]; exact hj)]
  rfl
theorem hrow_setCells {w : World} {g : Nat} {ty : TypeId} {p q : Nat × List UInt8} (h : w.heap[g]? = some (.cells (hc p).toArray ty (0, 0))) (hp : p.2.length = 32) (hq : q.2.length = 32) : (w.setCells g 0 (hc q)).heap[g]? = some (.cells (hc q).toArray ty (0, 0)) := by
  rw [setCells_row g ty (hc q) 0 w _ h (by rw [List.size_toArray, hc_length p hp, hc_length q hq]; omega)]
  congr 3
  rw [List.take_zero, List.nil_append, List.drop_eq_nil_of_le (by rw [Nat.zero_add, hc_length q hq]; simp [hc_length p hp]), List.append_nil]
def lenH : Value → Nat
  | .slice _ n _ => n
  | _ => 0
theorem q_len {xs : List ByteArray} {t : List (Nat × List UInt8)} {n : Nat} {q : List UInt8} (h : Car xs t n q) : q.length = 32 := by
  obtain ⟨A, S, _, _, _, hq, _⟩ := h
  rw [hq]
  exact rootL_length _
theorem n_len {xs : List ByteArray} {t : List (Nat × List UInt8)} {n : Nat} {q : List UInt8} (h : Car xs t n q) : n ≤ xs.length := by
  obtain ⟨A, S, hx, hl, _⟩ := h
  rw [hx, List.length_append]
  omega
theorem t_len {xs : List ByteArray} {t : List (Nat × List UInt8)} {n : Nat} {q : List UInt8} (h : Car xs t n q) : t.length ≤ xs.length := by
  obtain ⟨A, S, hx, hl, _, _, hs⟩ := h
  have := hs.len
  rw [hx, List.length_append]
  omega
theorem t_elem {xs : List ByteArray} {t : List (Nat × List UInt8)} {n : Nat} {q : List UInt8} (h : Car xs t n q) : ∀ p ∈ t, p.2.length = 32 ∧ p.1 ≤ xs.length := by
  obtain ⟨A, S, hx, hl, _, _, hs⟩ := h
  intro p hp
  have := hs.elem p hp
  rw [hx, List.length_append]
  exact ⟨this.1, by omega⟩
theorem own_top {w : World} {base : Nat} {e : TypeId} {v : Value} {n : Nat} {xs : List Value} (h : w.ownsRow base e 33 v n xs) (hn : 0 < n) : ∃ g cap, v = .slice (some ⟨g, 0, none⟩) n cap := by
  rcases h.2 with ⟨_, h0⟩ | ⟨g, cap, cur, hv, _⟩
  · omega
  · exact ⟨g, cap, hv⟩
theorem top_cell (t : List (Nat × List UInt8)) (p : Nat × List UInt8) (h : ∀ p ∈ t, p.2.length = 32) (j : Nat) : (hcs ((p :: t).reverse))[t.length * 33 + j]? = (hc p)[j]? := by
  rw [List.reverse_cons, hcs_snoc, List.getElem?_append_right (by rw [hcs_length _ (fun p hp => h p (by simpa using hp)), List.length_reverse]; omega), hcs_length _ (fun p hp => h p (by simpa using hp)), List.length_reverse]
  congr 1
  omega
/-- Is the last heap one of n entries? -/
def topIs (t : List (Nat × List UInt8)) (n : Nat) : Bool := match t with | [] => false | (m, _) :: _ => decide (m = n)
/-- The row of a list of one heap, as it is built. -/
theorem fold_heap (p : Nat × List UInt8) (h : p.2.length = 32) : List.foldl (fun (cs : Array Value) (x : Value × Nat) => cs.setIfInBounds x.snd x.fst) (hc z33).toArray (hc p).zipIdx = (hc p).toArray := by
  apply Array.ext'
  have := fold_set (hc p) 0 (hc z33).toArray [] (hc z33) (by simp) rfl (by rw [hc_length p h]; rfl)
  rw [this]
  simp
theorem news_heap (w : World) (p : Nat × List UInt8) (t : TypeId) : ∀ j u, (hc p)[j]? = some u → (w.alloc (.cells (hc p).toArray t)).cell? ((⟨w.heap.size, 0, none⟩ : Addr).add j) = some u := by
  intro j u hu
  rw [add_none, Nat.zero_add, cell_of_row _ w.heap.size j _ _ _ (heap_alloc_new w _)]
  simpa using hu
theorem range_tab {w : World} {g : Nat} {ty : TypeId} {tb : List Nat} (h : URow w g ty tb) (htl : tb.length = 72) : w.rangeAt g 0 (ucells tb) := by
  have := range_of_urow h 72
  rwa [List.take_of_length_le (by omega)] at this
theorem range_root {w : World} {G : Nat} {ty : TypeId} {p : Nat × List UInt8} (h : w.heap[G]? = some (.cells (hc p).toArray ty (0, 0))) : w.rangeAt G 1 (bcells p.2) := fun j v hv => by
  rw [cell_of_row w G (1 + j) _ _ _ h, List.getElem?_toArray, Nat.add_comm]
  simpa [hc] using hv
theorem range_top {w : World} {base g cp : Nat} {e : TypeId} (t : List (Nat × List UInt8)) (p : Nat × List UInt8) (h : ∀ p ∈ t, p.2.length = 32) (how : w.ownsRow base e 33 (.slice (some ⟨g, 0, none⟩) (p :: t).length cp) (p :: t).length (hcs (p :: t).reverse)) : w.rangeAt g (t.length * 33 + 1) (bcells p.2) := fun j v hv => by
  have hj : t.length * 33 + 1 + j < (p :: t).length * 33 := by
    have h1 := how.1
    have h2 := (List.getElem?_eq_some_iff.1 hv).1
    rw [List.reverse_cons, hcs_snoc, List.length_append, hcs_length _ (fun p hp => h p (by simpa using hp)), List.length_reverse] at h1
    have h3 : (hc p).length = (bcells p.2).length + 1 := rfl
    omega
  rw [how.cellAt _ hj, show t.length * 33 + 1 + j = t.length * 33 + (j + 1) by omega, top_cell t p h (j + 1)]
  simpa [hc] using hv
theorem own_cap {w : World} {base g n cap : Nat} {e : TypeId} {s : Nat} {xs : List Value} (h : w.ownsRow base e s (.slice (some ⟨g, 0, none⟩) n cap) n xs) : n ≤ cap := by
  rcases h.2 with ⟨h0, _⟩ | ⟨g', cap', cur, hv, _, _, h1, _⟩
  · cases h0
  · simp only [Value.slice.injEq] at hv
    obtain ⟨_, _, rfl⟩ := hv
    exact h1
theorem hc2 (m : Nat) (d : List UInt8) : hc (2 * m, d) = Value.int .i64 (2 * (m : Int)) :: bcells d := by simp [hc]
theorem range_of_brow3 {w : World} {g : Nat} {t : TypeId} {d : List UInt8} (h : BRow w g t d) : w.rangeAt g 0 (bcells d) := fun j v hv => by
  rw [Nat.zero_add, cell_of_row w g j _ _ _ h]
  simpa using hv
theorem gather_succ (q : List UInt8) (t : List (Nat × List UInt8)) (s : Nat) (h : s < t.length) : gather q (t.take (s + 1)) = nd (t.getD s (0, [])).2 (gather q (t.take s)) := by
  unfold gather
  rw [List.take_succ_eq_append_getElem h, List.foldl_append]
  simp [List.getD, List.getElem?_eq_getElem h]
theorem hcs_at (l : List (Nat × List UInt8)) (j : Nat) (hj : j < l.length) : hcs l = hcs (l.take j) ++ (hc (l[j]) ++ hcs (l.drop (j + 1))) := by
  have h1 : l.take j ++ l[j] :: l.drop (j + 1) = l := by rw [← List.drop_eq_getElem_cons hj, List.take_append_drop]
  have h2 : hcs (l.take j ++ l[j] :: l.drop (j + 1)) = hcs (l.take j) ++ (hc (l[j]) ++ hcs (l.drop (j + 1))) := by
    unfold hcs
    rw [List.flatMap_append, List.flatMap_cons]
  rw [← h2, h1]
theorem range_el {w : World} {base g cp N : Nat} {e : TypeId} (t : List (Nat × List UInt8)) (p : Nat × List UInt8) (h : ∀ p ∈ t, p.2.length = 32) (hN : N = (p :: t).length) (how : w.ownsRow base e 33 (.slice (some ⟨g, 0, none⟩) N cp) (p :: t).length (hcs (p :: t).reverse)) (hp : p.2.length = 32) (s : Nat) (hs : s < t.length) :
    w.rangeAt g ((t.length - 1 - s) * 33 + 1) (bcells (t.getD s (0, [])).2) := by
  subst hN
  have hall : ∀ x ∈ (p :: t).reverse, x.2.length = 32 := by
    intro x hx
    simp only [List.mem_reverse, List.mem_cons] at hx
    rcases hx with rfl | hx
    · exact hp
    · exact h x hx
  have hj : t.length - 1 - s < (p :: t).reverse.length := by simp; omega
  have hge : (p :: t).reverse[t.length - 1 - s] = t[s] := by
    simp only [List.reverse_cons]
    rw [List.getElem_append_left (by rw [List.length_reverse]; omega), List.getElem_reverse]
    congr 1
    omega
  have e1 := hcs_at (p :: t).reverse (t.length - 1 - s) hj
  rw [hge] at e1
  have hA : (hcs ((p :: t).reverse.take (t.length - 1 - s))).length = (t.length - 1 - s) * 33 := by
    rw [hcs_length _ (fun x hx => hall x (List.mem_of_mem_take hx)), List.length_take, Nat.min_eq_left (by omega)]
  have hx : (hc t[s]).length = 33 := hc_length _ (h _ (List.getElem_mem hs))
  intro i v hv
  rw [List.getD, List.getElem?_eq_getElem hs, Option.getD_some] at hv
  have hi : i + 1 < 33 := by
    have h1 := (List.getElem?_eq_some_iff.1 hv).1
    have h2 : (hc t[s]).length = (bcells t[s].2).length + 1 := rfl
    omega
  rw [how.cellAt _ (by simp only [List.length_cons]; omega), e1, show (t.length - 1 - s) * 33 + 1 + i = (t.length - 1 - s) * 33 + (i + 1) by omega, List.getElem?_append_right (by omega), hA, Nat.add_sub_cancel_left, List.getElem?_append_left (by omega)]
  simpa [hc] using hv
theorem four_two (w : World) (A B : Obj) : Below w.heap.size w ((w.alloc A).alloc B) ∧ ((w.alloc A).alloc B).heap.size = w.heap.size + 2 := ⟨(two_new w A B).1, by simp⟩

/-- What Tree keeps: its tables, its result, the heaps t (the last one first). -/
def Hp (w : World) (tb : List Nat) (t : List (Nat × List UInt8)) (v : Value) (wr : World) : Prop :=
  URow wr w.heap.size 26 tb ∧ BRow wr (w.heap.size + 1) 31 z32 ∧ wr.ownsRow (w.heap.size + 2) 129 33 v t.length (hcs t.reverse) ∧ Below w.heap.size w wr ∧ w.heap.size + 2 ≤ wr.heap.size

theorem Hp.below {w : World} {tb : List Nat} {t : List (Nat × List UInt8)} {v : Value} {wr wq : World} (h : Hp w tb t v wr) (hb : Below wr.heap.size wr wq) : Hp w tb t v wq :=
  ⟨h.1.below hb (Nat.le_refl _), (hb.block _ (lt_of_block h.2.1)).trans h.2.1, own_keep h.2.2.1 hb, h.2.2.2.1.trans (hb.mono h.2.2.2.1.size), Nat.le_trans h.2.2.2.2 hb.size⟩
/-- .. and beside them one heap more, in block G. -/
def Hq (w : World) (tb : List Nat) (t : List (Nat × List UInt8)) (v : Value) (G : Nat) (p : Nat × List UInt8) (wr : World) : Prop :=
  Hp w tb t v wr ∧ wr.heap[G]? = some (.cells (hc p).toArray 129 (0, 0)) ∧ w.heap.size + 2 ≤ G ∧ v.ownBlock ≠ some G
theorem Hq.below {w : World} {tb : List Nat} {t : List (Nat × List UInt8)} {v : Value} {G : Nat} {p : Nat × List UInt8} {wr wq : World} (h : Hq w tb t v G p wr) (hb : Below wr.heap.size wr wq) : Hq w tb t v G p wq :=
  ⟨h.1.below hb, (hb.block _ (lt_of_block h.2.1)).trans h.2.1, h.2.2⟩
theorem z33_cells : (hc z33).toArray = #[.int .i64 0, .int .u8 0, .int .u8 0, .int .u8 0, .int .u8 0, .int .u8 0, .int .u8 0, .int .u8 0, .int .u8 0, .int .u8 0, .int .u8 0, .int .u8 0, .int .u8 0, .int .u8 0, .int .u8 0, .int .u8 0, .int .u8 0, .int .u8 0, .int .u8 0, .int .u8 0, .int .u8 0, .int .u8 0, .int .u8 0, .int .u8 0, .int .u8 0, .int .u8 0, .int .u8 0, .int .u8 0, .int .u8 0, .int .u8 0, .int .u8 0, .int .u8 0, .int .u8 0] := rfl

theorem fold_set1 (a : Value) : ∀ (l : List Value) (k : Nat) (cs : Array Value) (pre tail : List Value), cs.toList = a :: (pre ++ tail) → pre.length = k → tail.length = l.length →
    (List.foldl (fun (cs : Array Value) (x : Value × Nat) => cs.setIfInBounds (1 + x.snd) x.fst) cs (l.zipIdx k)).toList = a :: (pre ++ l) := by
  intro l
  induction l with
  | nil =>
    intro k cs pre tail h _ ht
    have : tail = [] := List.length_eq_zero_iff.1 ht
    subst this
    simpa using h
  | cons x l ih =>
    intro k cs pre tail h hk ht
    cases tail with
    | nil => cases ht
    | cons y tail =>
      rw [List.zipIdx_cons, List.foldl_cons]
      have := ih (k + 1) (cs.setIfInBounds (1 + k) x) (pre ++ [x]) tail (by
        rw [Array.toList_setIfInBounds, h, ← hk, Nat.add_comm 1, List.set_cons_succ, List.set_append_right _ _ (Nat.le_refl _), Nat.sub_self]
        simp) (by simp [hk]) (by simpa using ht)
      rw [this]
      simp
/-- A heap, as it is built. -/
theorem fold33 (n : Int) (d : List UInt8) (h : d.length = 32) : List.foldl (fun (cs : Array Value) (x : Value × Nat) => cs.setIfInBounds (1 + x.snd) x.fst) #[.int .i64 n, .int .u8 0, .int .u8 0, .int .u8 0, .int .u8 0, .int .u8 0, .int .u8 0, .int .u8 0, .int .u8 0, .int .u8 0, .int .u8 0, .int .u8 0, .int .u8 0, .int .u8 0, .int .u8 0, .int .u8 0, .int .u8 0, .int .u8 0, .int .u8 0, .int .u8 0, .int .u8 0, .int .u8 0, .int .u8 0, .int .u8 0, .int .u8 0, .int .u8 0, .int .u8 0, .int .u8 0, .int .u8 0, .int .u8 0, .int .u8 0, .int .u8 0, .int .u8 0] (bcells d).zipIdx = (Value.int .i64 n :: bcells d).toArray := by
  apply Array.ext'
  have := fold_set1 (.int .i64 n) (bcells d) 0 (Value.int .i64 n :: bcells z32).toArray [] (bcells z32) (by simp) rfl (by simp [bcells, h, z32])
  exact this

/-- .. while the roots are gathered in block G9. -/
def Hr (w : World) (tb : List Nat) (t : List (Nat × List UInt8)) (v : Value) (G9 : Nat) (r : List UInt8) (wr : World) : Prop :=
  Hp w tb t v wr ∧ BRow wr G9 31 r ∧ w.heap.size + 2 ≤ G9 ∧ v.ownBlock ≠ some G9
theorem Hr.below {w : World} {tb : List Nat} {t : List (Nat × List UInt8)} {v : Value} {G : Nat} {r : List UInt8} {wr wq : World} (h : Hr w tb t v G r wr) (hb : Below wr.heap.size wr wq) : Hr w tb t v G r wq :=
  ⟨h.1.below hb, (hb.block _ (lt_of_block h.2.1)).trans h.2.1, h.2.2⟩
theorem Hr.put {w : World} {tb : List Nat} {t : List (Nat × List UInt8)} {v : Value} {G : Nat} {r : List UInt8} {wr : World} (h : Hr w tb t v G r wr) (d : List UInt8) (hd : r.length = d.length) : Hr w tb t v G d (wr.setCells G 0 (bcells d)) := by
  have hG := h.2.2.1
  have hgr : wr.grownBy (wr.setCells G 0 (bcells d)) (some G) := by
    have hb := below_setCells (B := G) (Nat.le_refl _) (bcells d) 0 (Below.refl G wr)
    refine ⟨hb.os, hb.tape, hb.output, hb.size, fun k hk hne => setCells_other _ _ (fun e => hne (by rw [e])) _ _ _⟩
  exact ⟨⟨(setCells_other _ _ (by omega) _ _ _).trans h.1.1, (setCells_other _ _ (by omega) _ _ _).trans h.1.2.1, h.1.2.2.1.kept hgr (.inr h.2.2.2), below_setCells (by omega) _ _ h.1.2.2.2.1, by rw [setCells_size]; exact h.1.2.2.2.2⟩, brow_setCells h.2.1 hd, hG, h.2.2.2⟩

set_option maxRecDepth 100000 in
set_option maxHeartbeats 3200000 in
theorem rtree_any (tb : List Nat) (ht : TabOk tb) (v : Value) (ss : List ByteArray) (w : World) (hS : Strs w v ss) (hl : ss.length ≤ 100) (hz : ∀ s ∈ ss, s.size ≤ 20) :
    Calls Tryd.prog 45 #[.agg (ucells tb).toArray, v] w fun e w' => e = .returned (.agg (bcells (rootL ss)).toArray) ∧ Below w.heap.size w w' := by
  obtain ⟨i0, hi, hz0, hz1, hz2⟩ := info_parts info_heap
  have htl := ht.1
  have VT := hide (v_tab tb htl)
  have VTM := hide (v_tabm tb htl)
  have HOK := hide ht
  have HS := hide (fun wq hb => hS.below (w' := wq) (B := w.heap.size) hb (Nat.le_refl _))
  obtain ⟨ao, cap, hv, hca, hcb, hcc⟩ := hS
  subst hv
  have HZ := hide hz
  obtain ⟨hbel0, g0, g1⟩ := two_new w (.cells (ucells tb).toArray 26) (.cells (bcells z32).toArray 31)
  have hsz0 := (four_two w (.cells (ucells tb).toArray 26) (.cells (bcells z32).toArray 31)).2
  have H0 := hide (show Hp w tb [] (.slice none 0 0) ((w.alloc (.cells (ucells tb).toArray 26)).alloc (.cells (bcells z32).toArray 31)) from ⟨g0, g1, World.ownsRow_nil _ _ _ _, hbel0, by omega⟩)
  clear hbel0 g0 g1 hz hcc ht hsz0
  go_enter Tryd.func45, Tryd.ntmps45
  go_upto_region 1 with fail
  rw [← z32_cells]
  generalize ((w.alloc (.cells (ucells tb).toArray 26)).alloc (.cells (bcells z32).toArray 31)) = W0 at H0 ⊢
  go_wp2_with fail
  go_loopw [5, 6, 7, 8] (fun vl i _ _ wr => ∃ (k : Nat) (t : List (Nat × List UInt8)), k ≤ ss.length ∧ i = .int .i64 k ∧ Stk (ss.take k) t 1 ∧ Hp w tb t vl wr) (fun _ i _ _ _ => ss.length - (intOf i).toNat)
  case atStart => exact ⟨0, [], Nat.zero_le _, rfl, rfl, unhide H0⟩
  case round =>
    obtain ⟨k, t, hk, rfl, hst, hhp⟩ := hrel
    have HST := hide hst
    have HHP := hide hhp
    clear hst hhp
    by_cases hlt : k < ss.length
    · have hd1 : decide ((k : Int) < (ss.length : Int)) = true := by simp; omega
      have hbr := (unhide HHP).2.2.2.1
      obtain ⟨b, off, cap', hv', _⟩ := strs_shape (unhide HS _ hbr) (by intro h; rw [h] at hlt; cases hlt)
      simp only [Value.slice.injEq, true_and] at hv'
      obtain ⟨rfl, rfl⟩ := hv'
      obtain ⟨x, hx⟩ : ∃ x, x = ss.getD k ByteArray.empty := ⟨_, rfl⟩
      have hcx := strs_cell (unhide HS _ hbr) k hlt
      rw [← hx] at hcx
      have hxs : x.size ≤ 20 := by
        rw [hx, List.getD, List.getElem?_eq_getElem hlt]
        exact unhide HZ _ (List.getElem_mem hlt)
      have HX := hide hx
      have HLf := hide (fun wq => rleaf_any tb (unhide HOK) x wq (by omega))
      have dl : (lf x).length = 32 := sha_length _
      have hcar := hide (show Car (ss.take (k + 1)) t 1 (lf x) by
        have := car_start x (unhide HST)
        rwa [hx, ← getD_take_succ ss k hlt, ← hx] at this)
      generalize lf x = dL at HLf dl hcar
      have hR8 : wr.drew.rangeAt w.heap.size 0 (ucells tb) ∧ wr.drew.cell? ⟨b, off + k, none⟩ = some (.string x) := by
        refine ⟨?_, hcx⟩
        have := range_of_urow (unhide HHP).1 72; rw [List.take_of_length_le (by omega)] at this; exact this
      have hKeep := hide (fun (wq : World) (h : Below wr.heap.size wr wq) => show Hp w tb t u5 wq ∧ (wq.rangeAt w.heap.size 0 (ucells tb) ∧ wq.cell? ⟨b, off + k, none⟩ = some (.string x)) from
        ⟨(unhide HHP).below h, rangeAt_below hR8.1 (show Below wr.heap.size wr.drew wq from ⟨h.os, h.tape, h.output, h.size, h.block⟩) (Nat.le_refl _), by rw [h.cell (p := ⟨b, off + k, none⟩) (cell_lt hcx)]; exact hcx⟩)
      have hk0 : (0 : Int) ≤ (k : Int) := by omega
      have hk1 : (k : Int) < (ss.length : Int) := by omega
      have hlv : ∀ G, wr.heap.size ≤ G → u5.ownBlock ≠ some G := fun G hG h => by
        have := ((unhide HHP).2.2.1.lt G h).2
        omega
      have HLV := hide hlv
      have hwz := (unhide HHP).2.2.2.2
      have VH := hide (v_hp (1, dL) dl)
      have hfold := fold33 1 dL dl
      have hbl : (bcells dL).length = 32 := by simp [bcells, dl]
      clear hx hcx hlv HST
      go_upto_region 5 with fail
      go_cut [7] from 17 to 23 (fun p wx => ∃ G : Nat, p = .pointer (some ⟨G, 0, none⟩) ∧ Hq w tb t u5 G (1, dL) wx)
      case first =>
        refine wp_region_held_drew (S := fun w' => w'.rangeAt w.heap.size 0 (ucells tb) ∧ w'.cell? ⟨b, off + k, none⟩ = some (.string x)) (by kernel_rfl) hR8 (fun hHeld => ?_)
        refine wpAnyH_take (i := 0) rfl (by kernel_rfl) (by kernel_rfl) (by kernel_rfl) (fun _ _ _ h => h)
            (yieldsIf_load_mid (by rfl) 26 _ rfl w.heap.size 0 rfl (ucells tb) _ (fun _ h => h.1) Tryd.underlying26 rfl (unhide VTM)) hHeld ?_
        simp only [List.getElem_toArray, List.getElem_cons_zero, Act.put, List.setIfInBounds_toArray, List.set_cons_zero, List.set_cons_succ]
        refine wpAnyH_take (i := 1) (v := .slice (some ⟨b, off, none⟩) ss.length cap) rfl (by kernel_rfl) (by kernel_rfl) (by kernel_rfl) (fun _ _ _ h => h) (Or.inl ⟨by rfl, fun _ _ => by go_simp⟩) hHeld ?_
        simp only [List.getElem_toArray, List.getElem_cons_zero, List.getElem_cons_succ, Act.put, List.setIfInBounds_toArray, List.set_cons_zero, List.set_cons_succ]
        refine wpAnyH_take (i := 2) (v := .int .i64 k) rfl (by kernel_rfl) (by kernel_rfl) (by kernel_rfl) (fun _ _ _ h => h) (Or.inl ⟨by rfl, fun _ _ => by go_simp⟩) hHeld ?_
        simp only [List.getElem_toArray, List.getElem_cons_zero, List.getElem_cons_succ, Act.put, List.setIfInBounds_toArray, List.set_cons_zero, List.set_cons_succ]
        refine wpAnyH_take (i := 3) (v := .pointer (some ⟨b, off + k, none⟩)) rfl (by kernel_rfl) (by kernel_rfl) (by kernel_rfl) (fun _ _ _ h => h) (Or.inl ⟨by rfl, fun _ _ => by go_simp⟩) hHeld ?_
        simp only [List.getElem_toArray, List.getElem_cons_zero, List.getElem_cons_succ, Act.put, List.setIfInBounds_toArray, List.set_cons_zero, List.set_cons_succ]
        refine wpAnyH_take (i := 4) (v := .string x) rfl (by kernel_rfl) (by kernel_rfl) (by kernel_rfl) (fun _ _ _ h => h) (Or.inl ⟨by rfl, fun _ hq => by have hq2 := hq.2; clear hq; go_simp⟩) hHeld ?_
        simp only [List.getElem_toArray, List.getElem_cons_zero, List.getElem_cons_succ, Act.put, List.setIfInBounds_toArray, List.set_cons_zero, List.set_cons_succ]
        refine wpAnyH_ready (rs := [5, 7]) (by kernel_rfl) (by simp) ?_
        refine AllReadyH.cons rfl (fun K hK => ?_) (AllReadyH.cons rfl (fun K hK => ?_) AllReadyH.nil)
        · go_simp
          go_at_call 63
          refine (unhide HLf _).mono ?_
          rintro e w2 ⟨rfl, hb2⟩
          have hb2' : Below wr.heap.size wr w2 := ⟨hb2.os, hb2.tape, hb2.output, hb2.size, hb2.block⟩
          dsimp only
          refine hK.out _ _ (unhide hKeep _ hb2').2 (fun hHeld => ?_)
          clear hK K
          refine wpAnyH_take (i := 6) (v := .agg (Value.int .i64 1 :: bcells dL).toArray) rfl (by kernel_rfl) (by kernel_rfl) (by kernel_rfl) (fun _ _ _ h => h) (Or.inl ⟨by rfl, fun _ _ => by go_simp⟩) hHeld ?_
          simp only [List.getElem_toArray, List.getElem_cons_zero, List.getElem_cons_succ, Act.put, List.setIfInBounds_toArray, List.set_cons_zero, List.set_cons_succ]
          refine wpAnyH_ready (rs := [7]) (by kernel_rfl) (by simp) ?_
          refine AllReadyH.cons rfl (fun K hK => ?_) AllReadyH.nil
          go_simp
          rw [← z33_cells]
          have hb3 : Below wr.heap.size wr (w2.alloc (.cells (hc z33).toArray 129)) := hb2'.alloc hb2'.size _
          have g3 : (w2.alloc (.cells (hc z33).toArray 129)).heap[w2.heap.size]? = some (.cells (hc z33).toArray 129 (0, 0)) := heap_alloc_new w2 _
          have hge := hb2'.size
          generalize w2.heap.size = G at g3 hge ⊢
          generalize w2.alloc (.cells (hc z33).toArray 129) = w3 at hb3 g3 ⊢
          refine hK.out _ _ (unhide hKeep _ hb3).2 (fun hHeld => ?_)
          clear hK K
          refine wpAnyH_ready (rs := [8]) (by kernel_rfl) (by simp) ?_
          refine AllReadyH.cons rfl (fun K hK => ?_) AllReadyH.nil
          rw [if_pos (by rfl)]
          refine wp_store_mid 129 _ _ rfl G 0 (hc (1, dL)).toArray rfl rfl (by rw [List.size_toArray, hc_length _ dl]; exact there_of_hrow g3 rfl) (unhide VH) (hc_all _) ?_
          rw [show (hc (1, dL)).toArray.toList = hc (1, dL) from rfl]
          have g4 : (w3.setCells G 0 (hc (1, dL))).heap[G]? = some (.cells (hc (1, dL)).toArray 129 (0, 0)) := hrow_setCells g3 rfl dl
          have hb4 : Below wr.heap.size wr (w3.setCells G 0 (hc (1, dL))) := below_setCells hge _ _ hb3
          generalize w3.setCells G 0 (hc (1, dL)) = w4 at g4 hb4 ⊢
          refine hK.out _ _ (unhide hKeep _ hb4).2 (fun hHeld => ?_)
          clear hK K
          refine wpAnyH_done (by kernel_rfl) ?_ _
          go_wp2_with fail
          go_meet
          exact ⟨G, rfl, (unhide hKeep _ hb4).1, g4, by omega, unhide HLV G hge⟩
        · go_simp
          rw [← z33_cells]
          have hb3 : Below wr.heap.size wr (wr.alloc (.cells (hc z33).toArray 129)).drew := ((Below.refl _ _).alloc (Nat.le_refl _) _).drew
          have g3 : (wr.alloc (.cells (hc z33).toArray 129)).drew.heap[wr.heap.size]? = some (.cells (hc z33).toArray 129 (0, 0)) := heap_alloc_new wr _
          generalize hG : wr.heap.size = G at g3 ⊢
          generalize (wr.alloc (.cells (hc z33).toArray 129)).drew = w3 at hb3 g3 ⊢
          refine hK.out _ _ (unhide hKeep _ hb3).2 (fun hHeld => ?_)
          clear hK K
          refine wpAnyH_ready (rs := [5]) (by kernel_rfl) (by simp) ?_
          refine AllReadyH.cons rfl (fun K hK => ?_) AllReadyH.nil
          go_simp
          go_at_call 63
          refine (unhide HLf _).mono ?_
          rintro e w2 ⟨rfl, hb2⟩
          have hb2' := hb3.trans (hb2.mono hb3.size)
          have g5 : w2.heap[G]? = some (.cells (hc z33).toArray 129 (0, 0)) := (hb2.block _ (lt_of_block g3)).trans g3
          dsimp only
          refine hK.out _ _ (unhide hKeep _ hb2').2 (fun hHeld => ?_)
          clear hK K
          refine wpAnyH_take (i := 6) (v := .agg (Value.int .i64 1 :: bcells dL).toArray) rfl (by kernel_rfl) (by kernel_rfl) (by kernel_rfl) (fun _ _ _ h => h) (Or.inl ⟨by rfl, fun _ _ => by go_simp⟩) hHeld ?_
          simp only [List.getElem_toArray, List.getElem_cons_zero, List.getElem_cons_succ, Act.put, List.setIfInBounds_toArray, List.set_cons_zero, List.set_cons_succ]
          refine wpAnyH_ready (rs := [8]) (by kernel_rfl) (by simp) ?_
          refine AllReadyH.cons rfl (fun K hK => ?_) AllReadyH.nil
          rw [if_pos (by rfl)]
          refine wp_store_mid 129 _ _ rfl G 0 (hc (1, dL)).toArray rfl rfl (by rw [List.size_toArray, hc_length _ dl]; exact there_of_hrow g5 rfl) (unhide VH) (hc_all _) ?_
          rw [show (hc (1, dL)).toArray.toList = hc (1, dL) from rfl]
          have g4 : (w2.setCells G 0 (hc (1, dL))).heap[G]? = some (.cells (hc (1, dL)).toArray 129 (0, 0)) := hrow_setCells g5 rfl dl
          have hb4 : Below wr.heap.size wr (w2.setCells G 0 (hc (1, dL))) := below_setCells (by omega) _ _ hb2'
          generalize w2.setCells G 0 (hc (1, dL)) = w4 at g4 hb4 ⊢
          refine hK.out _ _ (unhide hKeep _ hb4).2 (fun hHeld => ?_)
          clear hK K
          refine wpAnyH_done (by kernel_rfl) ?_ _
          go_wp2_with fail
          go_meet
          exact ⟨G, rfl, (unhide hKeep _ hb4).1, g4, by omega, unhide HLV G (by omega)⟩
      case rest =>
        obtain ⟨G, rfl, hq⟩ := hcut
        have HQ := hide hq
        clear hq hKeep hR8 HLV HLf VH hfold HX HHP hxs hwz
        go_wp2_with fail
        go_loopw [5, 8] (fun vl _ wq => ∃ (t : List (Nat × List UInt8)) (n : Nat) (q : List UInt8), Car (ss.take (k + 1)) t n q ∧ Hq w tb t vl G (n, q) wq) (fun vl _ _ => lenH vl)
        case atStart => exact ⟨t, 1, dL, unhide hcar, unhide HQ⟩
        case round =>
          obtain ⟨t, n, q, hcr, hq⟩ := hrel
          have HCR := hide hcr
          have hql := q_len hcr
          have hnl := n_len hcr
          rw [List.length_take] at hnl
          have hte := t_elem hcr
          have HTE := hide hte
          obtain ⟨T, hT⟩ : ∃ T : Nat, t.length = T := ⟨_, rfl⟩
          have hown := hq.1.2.2.1
          rw [hT] at hown
          have HOW := hide hown
          have hn0 := cell_of_row wr G 0 _ _ _ hq.2.1
          have hn1 : wr.cell? ⟨G, 0, none⟩ = some (.int .i64 (n : Int)) := hn0
          have HQ := hide hq
          have hTl : T ≤ 100 := by
            have := t_len hcr
            rw [List.length_take] at this
            omega
          clear hcr hq hte hn0 hown
          obtain ⟨c, hcc⟩ : ∃ c : Bool, c = topIs t n := ⟨_, rfl⟩
          have HCC := hide hcc
          clear hcc
          go_upto_region 6 with fail
          go_cut [38] from 24 to 37 (fun p wx => p = .bool c ∧ Below wr.heap.size wr wx)
          case first =>
            cases t with
            | nil =>
              obtain ⟨al, cl, rfl⟩ := own_shape (unhide HOW)
              have hT0 : T = 0 := hT.symm
              subst hT0
              have hcf : c = false := unhide HCC
              subst hcf
              go_quiet (fail)
              go_wp2_with fail
              go_meet
              exact ⟨rfl, below_drewN (Below.refl _ _) _⟩
            | cons p t' =>
              obtain ⟨m, r⟩ := p
              obtain ⟨g, cp, hg⟩ := own_top (unhide HOW) (by rw [← hT]; simp)
              subst hg
              have hct := (unhide HOW).cellAt ((T - 1) * 33) (by have : 0 < T := (by rw [← hT]; simp); omega)
              rw [show T - 1 = t'.length by rw [← hT]; simp, ← Nat.add_zero (t'.length * 33), top_cell t' (m, r) (fun p hp => (unhide HTE p (by simp [hp])).1) 0, Nat.add_zero, show t'.length = T - 1 by rw [← hT]; simp] at hct
              have hct2 : wr.cell? ⟨g, (T - 1) * 33, none⟩ = some (.int .i64 (m : Int)) := hct
              have hT1 : 1 ≤ T := by rw [← hT]; simp
              have hml := (unhide HTE (m, r) (by simp)).2
              simp only [List.length_take] at hml
              have fa : (1 : Int) ≤ (T : Int) := by omega
              have fb : decide (0 < T) = true := by simp; omega
              have fW : IntKind.i64.wrap ((T : Int) - 1) = (T : Int) - 1 := i64w _ (by omega)
              have fc : (0 : Int) ≤ (T : Int) - 1 := by omega
              have fd : (T : Int) - 1 < (T : Int) := by omega
              have fe : ((T : Int) - 1).toNat = T - 1 := by omega
              have hcf : c = decide (m = n) := unhide HCC
              have hcmp : ((m : Int) == (n : Int)) = c := by
                rw [hcf, Bool.eq_iff_iff, beq_iff_eq, decide_eq_true_iff]
                omega
              clear hct hcf hT
              go_quiet (fail)
              go_wp2_with fail
              go_meet
              exact ⟨rfl, below_drewN (Below.refl _ _) _⟩
          case rest =>
            obtain ⟨rfl, hbq⟩ := hcut
            have HQ2 := hide ((unhide HQ).below hbq)
            have HOW2 := hide (own_keep (unhide HOW) hbq)
            clear HQ HOW hn1
            cases c with
            | false =>
              have hq2 := unhide HQ2
              have gG := hide hq2.2.1
              have VH := hide (v_hp (n, q) hql)
              have hfold := fold_heap (n, q) hql
              have hbl : (hc (n, q)).length = 33 := hc_length _ hql
              have HNB := hide hq2.2.2.2
              have hwz := hq2.1.2.2.2.2
              have hbc := hq2.1.2.2.2.1
              clear hq2
              go_wp2_with (first | ((with_reducible refine at_load ?_); refine wpList_load_row rfl 129 _ rfl G (by rfl) 129 (hc (n, q)).toArray (0, 0) _ (unhide gG) Tryd.underlying129 rfl (unhide VH) ?_) | (at_builtin; rw [← z33_cells, hfold]; go_must (refine wpList_append_own _ rfl (.tmp 60) (.tmp 62) 127 rfl (w.heap.size + 2) 129 i0 (.agg (hc z33).toArray) 33 40 Tryd.underlying127 hi hz0 hz1 hz2 rfl (by decide) _ _ _ rfl ((unhide HOW2).alloc _) ⟨wc.heap.size, 0, none⟩ 1 1 (hc (n, q)) rfl (by rw [hbl]) ?c2 (hc_one (n, q)) ?c3 ?c4 ?c5 ?_)))
              case c2 => exact news_heap wc (n, q) _
              case c3 => unfold maxLen; omega
              case c4 => omega
              case c5 => simp; omega
              intro v6 w6 hown6 hgrow6 _
              have hb6 : Below (w.heap.size + 2) wc w6 := ((Below.refl (w.heap.size + 2) wc).alloc hwz _).grown hgrow6 (by simp; omega) (own_row_ge (unhide HOW2))
              have hp6 : Hp w tb ((n, q) :: t) v6 w6 := by
                have h1 := (unhide HQ2).1
                refine ⟨(hb6.block _ (by omega)).trans h1.1, (hb6.block _ (by omega)).trans h1.2.1, ?_, hbc.trans (hb6.mono (by omega)), Nat.le_trans hwz hb6.size⟩
                rw [List.reverse_cons, hcs_snoc, List.length_cons, hT]
                exact hown6
              have HP6 := hide hp6
              clear hown6 hgrow6 hb6 hp6
              go_wp2_with fail
              have hne : ∀ m r t', t = (m, r) :: t' → m ≠ n := by
                intro m r t' ht hm
                have h5 := unhide HCC
                rw [ht] at h5
                have h6 : false = decide (m = n) := h5
                rw [decide_eq_true hm] at h6
                cases h6
              exact ⟨⟨k + 1, (n, q) :: t, by omega, by go_num, car_end (unhide HCR) hne, unhide HP6⟩, by simp [intOf]; omega⟩
            | true =>
              cases t with
              | nil => cases unhide HCC
              | cons p t' =>
              obtain ⟨m, r⟩ := p
              obtain rfl : m = n := by
                have h5 : true = decide (m = n) := unhide HCC
                exact of_decide_eq_true h5.symm
              obtain ⟨g, cp, hg⟩ := own_top (unhide HOW2) (by rw [← hT]; simp)
              subst hg
              have hT1 : 1 ≤ T := by rw [← hT]; simp
              have hTe : T - 1 = t'.length := by rw [← hT]; simp
              have hrl := (unhide HTE (m, r) (by simp)).1
              simp only at hrl
              have hrt : wc.rangeAt g ((T - 1) * 33 + 1) (bcells r) := by
                have h6 := unhide HOW2
                rw [← hT] at h6
                rw [hTe]
                exact range_top t' (m, r) (fun p hp => (unhide HTE p (by simp [hp])).1) h6
              have HRT := hide hrt
              have fa : (1 : Int) ≤ (T : Int) := by omega
              have fW : IntKind.i64.wrap ((T : Int) - 1) = (T : Int) - 1 := i64w _ (by omega)
              have fc : (0 : Int) ≤ (T : Int) - 1 := by omega
              have fd : (T : Int) - 1 < (T : Int) := by omega
              have fe : ((T : Int) - 1).toNat = T - 1 := by omega
              have hcpT := own_cap (unhide HOW2)
              have ff : (T : Int) - 1 ≤ (cp : Int) := by omega
              have VMr := hide (v_mid r hrl)
              have VMq := hide (v_mid q hql)
              have HNd := hide (fun wq => rnode_any tb (unhide HOK) r q wq hrl hql)
              have dn : (nd r q).length = 32 := sha_length _
              generalize hnd : nd r q = dN at HNd dn
              have HND := hide hnd
              have VN := hide (v_dg dN dn)
              have ZN := hide (v_z32 dN dn)
              have hKeep := hide (fun (wq : World) (h : Below wc.heap.size wc wq) => show Hq w tb ((m, r) :: t') (.slice (some ⟨g, 0, none⟩) T cp) G (m, q) wq ∧ (wq.rangeAt w.heap.size 0 (ucells tb) ∧ wq.rangeAt g ((T - 1) * 33 + 1) (bcells r) ∧ wq.rangeAt G 1 (bcells q)) from
                ⟨(unhide HQ2).below h, rangeAt_below (range_tab (unhide HQ2).1.1 htl) h (Nat.le_refl _), rangeAt_below (unhide HRT) h (Nat.le_refl _), rangeAt_below (range_root (unhide HQ2).2.1) h (Nat.le_refl _)⟩)
              have hW1 : Below wc.heap.size wc wc.drew := (Below.refl _ _).drew
              have hR8 := (unhide hKeep _ hW1).2
              have hGlt : G < wc.heap.size := lt_of_block (unhide HQ2).2.1
              clear hnd hT
              go_wp2_with fail
              go_cut [8] from 39 to 49 (fun p wx => ∃ G8 : Nat, p = .pointer (some ⟨G8, 0, none⟩) ∧ BRow wx G8 31 dN ∧ G8 ≠ G ∧ Hq w tb ((m, r) :: t') (.slice (some ⟨g, 0, none⟩) T cp) G (m, q) wx)
              case first =>
                refine wp_region_held_drew (S := fun w' => w'.rangeAt w.heap.size 0 (ucells tb) ∧ w'.rangeAt g ((T - 1) * 33 + 1) (bcells r) ∧ w'.rangeAt G 1 (bcells q)) (by kernel_rfl) hR8 (fun hHeld => ?_)
                refine wpAnyH_take (i := 0) rfl (by kernel_rfl) (by kernel_rfl) (by kernel_rfl) (fun _ _ _ h => h) (yieldsIf_load_mid (by rfl) 26 _ rfl w.heap.size (0) rfl (ucells tb) _ (fun _ h => h.1) Tryd.underlying26 rfl (unhide VTM)) hHeld ?_
                simp only [List.getElem_toArray, List.getElem_cons_zero, Act.put, List.setIfInBounds_toArray, List.set_cons_zero, List.set_cons_succ]
                refine wpAnyH_take (i := 1) (v := .slice (some ⟨g, 0, none⟩) T cp) rfl (by kernel_rfl) (by kernel_rfl) (by kernel_rfl) (fun _ _ _ h => h) (Or.inl ⟨by rfl, fun _ _ => by go_simp⟩) hHeld ?_
                simp only [List.getElem_toArray, List.getElem_cons_zero, List.getElem_cons_succ, Act.put, List.setIfInBounds_toArray, List.set_cons_zero, List.set_cons_succ]
                refine wpAnyH_take (i := 2) (v := .slice (some ⟨g, 0, none⟩) T cp) rfl (by kernel_rfl) (by kernel_rfl) (by kernel_rfl) (fun _ _ _ h => h) (Or.inl ⟨by rfl, fun _ _ => by go_simp⟩) hHeld ?_
                simp only [List.getElem_toArray, List.getElem_cons_zero, List.getElem_cons_succ, Act.put, List.setIfInBounds_toArray, List.set_cons_zero, List.set_cons_succ]
                refine wpAnyH_take (i := 3) (v := .int .i64 T) rfl (by kernel_rfl) (by kernel_rfl) (by kernel_rfl) (fun _ _ _ h => h) (Or.inl ⟨by rfl, fun _ _ => by go_simp⟩) hHeld ?_
                simp only [List.getElem_toArray, List.getElem_cons_zero, List.getElem_cons_succ, Act.put, List.setIfInBounds_toArray, List.set_cons_zero, List.set_cons_succ]
                refine wpAnyH_take (i := 4) (v := .int .i64 ((T : Int) - 1)) rfl (by kernel_rfl) (by kernel_rfl) (by kernel_rfl) (fun _ _ _ h => h) (Or.inl ⟨by rfl, fun _ _ => by first | (go_simp; done) | (go_simp; exact fW)⟩) hHeld ?_
                simp only [List.getElem_toArray, List.getElem_cons_zero, List.getElem_cons_succ, Act.put, List.setIfInBounds_toArray, List.set_cons_zero, List.set_cons_succ]
                refine wpAnyH_take (i := 5) (v := .pointer (some ⟨g, (T - 1) * 33, none⟩)) rfl (by kernel_rfl) (by kernel_rfl) (by kernel_rfl) (fun _ _ _ h => h) (Or.inl ⟨by rfl, fun _ _ => by go_simp⟩) hHeld ?_
                simp only [List.getElem_toArray, List.getElem_cons_zero, List.getElem_cons_succ, Act.put, List.setIfInBounds_toArray, List.set_cons_zero, List.set_cons_succ]
                refine wpAnyH_take (i := 6) (v := .pointer (some ⟨g, (T - 1) * 33 + 1, none⟩)) rfl (by kernel_rfl) (by kernel_rfl) (by kernel_rfl) (fun _ _ _ h => h) (Or.inl ⟨by rfl, fun _ _ => by go_simp⟩) hHeld ?_
                simp only [List.getElem_toArray, List.getElem_cons_zero, List.getElem_cons_succ, Act.put, List.setIfInBounds_toArray, List.set_cons_zero, List.set_cons_succ]
                refine wpAnyH_take (i := 7) rfl (by kernel_rfl) (by kernel_rfl) (by kernel_rfl) (fun _ _ _ h => h) (yieldsIf_load_mid (by rfl) 31 _ rfl g ((T - 1) * 33 + 1) rfl (bcells r) _ (fun _ h => h.2.1) Tryd.underlying31 rfl (unhide VMr)) hHeld ?_
                simp only [List.getElem_toArray, List.getElem_cons_zero, List.getElem_cons_succ, Act.put, List.setIfInBounds_toArray, List.set_cons_zero, List.set_cons_succ]
                refine wpAnyH_take (i := 8) (v := .pointer (some ⟨G, 1, none⟩)) rfl (by kernel_rfl) (by kernel_rfl) (by kernel_rfl) (fun _ _ _ h => h) (Or.inl ⟨by rfl, fun _ _ => by go_simp⟩) hHeld ?_
                simp only [List.getElem_toArray, List.getElem_cons_zero, List.getElem_cons_succ, Act.put, List.setIfInBounds_toArray, List.set_cons_zero, List.set_cons_succ]
                refine wpAnyH_take (i := 9) rfl (by kernel_rfl) (by kernel_rfl) (by kernel_rfl) (fun _ _ _ h => h) (yieldsIf_load_mid (by rfl) 31 _ rfl G (1) rfl (bcells q) _ (fun _ h => h.2.2) Tryd.underlying31 rfl (unhide VMq)) hHeld ?_
                simp only [List.getElem_toArray, List.getElem_cons_zero, List.getElem_cons_succ, Act.put, List.setIfInBounds_toArray, List.set_cons_zero, List.set_cons_succ]
                refine wpAnyH_ready (rs := [10, 11]) (by kernel_rfl) (by simp) ?_
                refine AllReadyH.cons rfl (fun K hK => ?_) (AllReadyH.cons rfl (fun K hK => ?_) AllReadyH.nil)
                · go_simp
                  go_at_call 65
                  refine (unhide HNd _).mono ?_
                  rintro e w2 ⟨rfl, hb2⟩
                  have hb2' : Below wc.heap.size wc w2 := ⟨hb2.os, hb2.tape, hb2.output, hb2.size, hb2.block⟩
                  dsimp only
                  refine hK.out _ _ (unhide hKeep _ hb2').2 (fun hHeld => ?_)
                  clear hK K
                  refine wpAnyH_ready (rs := [11]) (by kernel_rfl) (by simp) ?_
                  refine AllReadyH.cons rfl (fun K hK => ?_) AllReadyH.nil
                  go_simp
                  rw [← z32_cells]
                  have hb3 : Below wc.heap.size wc (w2.alloc (.cells (bcells z32).toArray 31)) := hb2'.alloc hb2'.size _
                  have g3 : BRow (w2.alloc (.cells (bcells z32).toArray 31)) w2.heap.size 31 z32 := heap_alloc_new w2 _
                  have hge := hb2'.size
                  generalize w2.heap.size = G8 at g3 hge ⊢
                  generalize w2.alloc (.cells (bcells z32).toArray 31) = w3 at hb3 g3 ⊢
                  refine hK.out _ _ (unhide hKeep _ hb3).2 (fun hHeld => ?_)
                  clear hK K
                  refine wpAnyH_ready (rs := [12]) (by kernel_rfl) (by simp) ?_
                  refine AllReadyH.cons rfl (fun K hK => ?_) AllReadyH.nil
                  rw [if_pos (by rfl)]
                  refine wp_store_mid 31 _ _ rfl G8 0 (bcells dN).toArray rfl rfl (by rw [bcells_size, dn]; exact there_of_brow g3 rfl) (unhide VN) (bcells_one dN) ?_
                  rw [show (bcells dN).toArray.toList = bcells dN from rfl]
                  have g4 : BRow (w3.setCells G8 0 (bcells dN)) G8 31 dN := brow_setCells g3 (by rw [dn]; rfl)
                  have hb4 : Below wc.heap.size wc (w3.setCells G8 0 (bcells dN)) := below_setCells hge _ _ hb3
                  generalize w3.setCells G8 0 (bcells dN) = w4 at g4 hb4 ⊢
                  refine hK.out _ _ (unhide hKeep _ hb4).2 (fun hHeld => ?_)
                  clear hK K
                  refine wpAnyH_done (by kernel_rfl) ?_ _
                  go_wp2_with fail
                  go_meet
                  exact ⟨G8, rfl, g4, by omega, (unhide hKeep _ hb4).1⟩
                · go_simp
                  rw [← z32_cells]
                  have hb5 : Below wc.heap.size wc (wc.alloc (.cells (bcells z32).toArray 31)).drew := ((Below.refl _ _).alloc (Nat.le_refl _) _).drew
                  have g5 : BRow (wc.alloc (.cells (bcells z32).toArray 31)).drew wc.heap.size 31 z32 := heap_alloc_new wc _
                  have hge : wc.heap.size ≤ wc.heap.size := Nat.le_refl _
                  generalize hG8 : wc.heap.size = G8 at g5 ⊢
                  generalize (wc.alloc (.cells (bcells z32).toArray 31)).drew = w5 at hb5 g5 ⊢
                  refine hK.out _ _ (unhide hKeep _ hb5).2 (fun hHeld => ?_)
                  clear hK K
                  refine wpAnyH_ready (rs := [10]) (by kernel_rfl) (by simp) ?_
                  refine AllReadyH.cons rfl (fun K hK => ?_) AllReadyH.nil
                  go_simp
                  go_at_call 65
                  refine (unhide HNd _).mono ?_
                  rintro e w3 ⟨rfl, hb2⟩
                  have hb3 := hb5.trans (hb2.mono hb5.size)
                  have g3 : BRow w3 G8 31 z32 := (hb2.block _ (lt_of_block g5)).trans g5
                  rw [hG8] at hge
                  dsimp only
                  refine hK.out _ _ (unhide hKeep _ hb3).2 (fun hHeld => ?_)
                  clear hK K
                  refine wpAnyH_ready (rs := [12]) (by kernel_rfl) (by simp) ?_
                  refine AllReadyH.cons rfl (fun K hK => ?_) AllReadyH.nil
                  rw [if_pos (by rfl)]
                  refine wp_store_mid 31 _ _ rfl G8 0 (bcells dN).toArray rfl rfl (by rw [bcells_size, dn]; exact there_of_brow g3 rfl) (unhide VN) (bcells_one dN) ?_
                  rw [show (bcells dN).toArray.toList = bcells dN from rfl]
                  have g4 : BRow (w3.setCells G8 0 (bcells dN)) G8 31 dN := brow_setCells g3 (by rw [dn]; rfl)
                  have hb4 : Below wc.heap.size wc (w3.setCells G8 0 (bcells dN)) := below_setCells (by omega) _ _ hb3
                  generalize w3.setCells G8 0 (bcells dN) = w4 at g4 hb4 ⊢
                  refine hK.out _ _ (unhide hKeep _ hb4).2 (fun hHeld => ?_)
                  clear hK K
                  refine wpAnyH_done (by kernel_rfl) ?_ _
                  go_wp2_with fail
                  go_meet
                  exact ⟨G8, rfl, g4, by omega, (unhide hKeep _ hb4).1⟩
              case rest =>
                obtain ⟨G8, rfl, g8, hne8, hq3⟩ := hcut
                have hnc : wc.cell? ⟨G, 0, none⟩ = some (.int .i64 (m : Int)) := cell_of_row wc G 0 _ _ _ hq3.2.1
                have hfold := fold33 (2 * (m : Int)) dN dn
                have hbl : (bcells dN).length = 32 := by simp [bcells, dn]
                have HG3 := hide hq3.2.1
                have HG8 := hide g8
                have VH := hide (show (Tryd.prog.info? 129).map (·.size) = some (Value.int .i64 (2 * (m : Int)) :: bcells dN).toArray.size by rw [List.size_toArray, List.length_cons, hbl]; exact info_hp)
                have ZH := hide (show (hc (m, q)).toArray.size = (Value.int .i64 (2 * (m : Int)) :: bcells dN).toArray.size by rw [List.size_toArray, List.size_toArray, hc_length _ hql, List.length_cons, hbl])
                have OH := hide (show (Value.int .i64 (2 * (m : Int)) :: bcells dN).toArray.all (·.oneCell') = true by have h7 := hc_all (2 * m, dN); rwa [hc2] at h7)
                have HQ3 := hide hq3
                clear hq3 g8 hR8 hKeep HNd HRT HQ2 HOW2 hrt
                go_wp2_with (first | ((with_reducible refine at_load ?_); refine wpList_load_row rfl 31 _ rfl G8 (by rfl) 31 (bcells dN).toArray (0, 0) _ (unhide HG8) Tryd.underlying31 rfl (unhide VN) ?_) | ((with_reducible refine at_store ?_); refine wpList_store_row rfl 129 _ _ rfl G (Value.int .i64 (2 * (m : Int)) :: bcells dN).toArray rfl rfl 129 _ (unhide HG3) (unhide VH) (unhide ZH) (unhide OH) ?_))
                have hq4 := unhide HQ3
                have hTe2 : T = t'.length + 1 := by omega
                rw [← hc2]
                have hgr : wc.grownBy (wc.setRow G (hc (2 * m, dN)).toArray) (some G) := ⟨rfl, rfl, rfl, by simp [World.setRow], fun k hk hne => setRow_other _ _ _ _ (fun e => hne (by rw [e]))⟩
                have hown9 := hq4.1.2.2.1.kept hgr (.inr hq4.2.2.2)
                rw [List.length_cons, List.reverse_cons, hcs_snoc, hTe2] at hown9
                have hownA := ownsRow_pop (by rw [hcs_length _ (fun p hp => (unhide HTE p (by simp at hp; simp [hp])).1), List.length_reverse]) hown9
                have hG2 := hq4.2.2.1
                refine ⟨⟨t', 2 * m, dN, by rw [← unhide HND]; exact car_step (unhide HCR), ⟨⟨(setRow_other _ _ _ _ (by omega)).trans hq4.1.1, (setRow_other _ _ _ _ (by omega)).trans hq4.1.2.1, hownA, below_row hq4.1.2.2.2.1 (by omega) _, by simp only [World.setRow, Array.size_modify]; exact hq4.1.2.2.2.2⟩, setRow_heap _ _ _ _ _ _ hq4.2.1, hG2, hq4.2.2.2⟩⟩, by simp only [lenH]; omega⟩
    · have hd1 : decide ((k : Int) < (ss.length : Int)) = false := by simp; omega
      have hst : Stk ss t 1 := by
        have h1 := unhide HST
        rwa [List.take_of_length_le (by omega)] at h1
      have HGR := hide (fun n q t' (h : t = (n, q) :: t') => gather_all (xs := ss) (by rw [← h]; exact hst))
      have hte := hst.elem
      have htn := hst.len
      cases t with
      | nil =>
        have hs0 : ss = [] := hst
        have HN := hide (fun wq => (unhide HOK).2 ⟨#[]⟩ wq (by decide))
        rw [show (ByteArray.mk #[]).data.toList = [] from rfl] at HN
        have HR := hide (show rootL ss = shaL [] by rw [hs0, rootL_nil])
        have dl : (shaL []).length = 32 := sha_length _
        generalize shaL [] = d8 at HN dl HR
        have V2 := hide (v_dg d8 dl)
        have V3 := hide (v_z32 d8 dl)
        obtain ⟨al, cl, hvl⟩ := own_shape (unhide HHP).2.2.1
        subst hvl
        clear hst hte htn hs0 HST HGR
        go_wp2_with ((with_reducible refine at_load ?_); refine wpList_load_row rfl 26 _ rfl w.heap.size (by rfl) 26 (ucells tb).toArray (0, 0) _ (unhide HHP).1 Tryd.underlying26 rfl (unhide VT) ?_)
        refine (unhide HN _).mono ?_
        rintro e w2 ⟨rfl, hb2⟩
        have hp2 := (unhide HHP).below hb2
        have V1 := hide hp2.2.1
        go_wp2_with ((with_reducible refine at_store ?_); refine wpList_store_row rfl 31 _ _ rfl (w.heap.size + 1) (bcells d8).toArray rfl rfl 31 _ (unhide V1) (unhide V2) (unhide V3) (bcells_one d8) ?_)
        refine bodyPost_ret (v := .agg (bcells d8).toArray) ?_ rfl ⟨by rw [unhide HR], below_row hp2.2.2.2.1 (by omega) _⟩
        exact results_cell_row Tryd.results45 _ _ (w.heap.size + 1) 31 _ (0, 0) _ rfl (setRow_heap _ _ _ _ _ _ (unhide V1)) Tryd.underlying31 rfl (unhide V2)
      | cons p t' =>
        obtain ⟨n, q⟩ := p
        have hgr := unhide HGR n q t' rfl
        obtain ⟨T, hT⟩ : ∃ T : Nat, t'.length + 1 = T := ⟨_, rfl⟩
        have how := (unhide HHP).2.2.1
        obtain ⟨g, cp, hg⟩ := own_top how (by simp)
        subst hg
        have hql := (hte (n, q) (by simp)).1
        simp only at hql
        have htl' : ∀ p ∈ t', p.2.length = 32 := fun p hp => (hte p (by simp [hp])).1
        have hrt := range_top t' (n, q) htl' how
        rw [show t'.length = T - 1 by omega] at hrt
        have HRT := hide hrt
        have HTL := hide htl'
        have hT1 : 1 ≤ T := by omega
        have hTl : T ≤ 100 := by simp only [List.length_cons] at htn; omega
        rw [List.length_cons, hT]
        have hT0 : ((T : Int) == 0) = false := by rw [beq_eq_false_iff_ne]; omega
        have fW : IntKind.i64.wrap ((T : Int) - 1) = (T : Int) - 1 := i64w _ (by omega)
        have fW2 : IntKind.i64.wrap ((T : Int) - 2) = (T : Int) - 2 := i64w _ (by omega)
        have fa : (1 : Int) ≤ (T : Int) := by omega
        have fc : (0 : Int) ≤ (T : Int) - 1 := by omega
        have fd : (T : Int) - 1 < (T : Int) := by omega
        have fe : ((T : Int) - 1).toNat = T - 1 := by omega
        have VMq := hide (v_mid q hql)
        have VQ := hide (v_dg q hql)
        have ZQ := hide (v_z32 q hql)
        clear hst hte htn HST HGR how hrt htl'
        go_wp2_with (first | ((with_reducible refine at_load ?_); refine wpList_load_mid rfl 31 _ rfl g ((T - 1) * 33 + 1) (by rfl) (bcells q) _ (unhide HRT) Tryd.underlying31 rfl (unhide VMq) ?_) | ((with_reducible refine at_store ?_); refine wpList_store_row rfl 31 _ _ rfl wr.heap.size (bcells q).toArray rfl rfl 31 _ (heap_alloc_new wr _) (unhide VQ) (unhide ZQ) (bcells_one q) ?_))
        rw [← z32_cells]
        have hbA := below_put wr (bcells z32).toArray (bcells q).toArray 31
        have gA : BRow ((wr.alloc (.cells (bcells z32).toArray 31)).setRow wr.heap.size (bcells q).toArray) wr.heap.size 31 q := heap_put_new _ _ _ _
        have hr0 : Hr w tb ((n, q) :: t') (.slice (some ⟨g, 0, none⟩) T cp) wr.heap.size q ((wr.alloc (.cells (bcells z32).toArray 31)).setRow wr.heap.size (bcells q).toArray) := by
          have h1 := unhide HHP
          rw [List.length_cons, hT] at h1
          refine ⟨h1.below hbA, gA, h1.2.2.2.2, fun h => ?_⟩
          have := (h1.2.2.1.lt _ h).2
          omega
        generalize ((wr.alloc (.cells (bcells z32).toArray 31)).setRow wr.heap.size (bcells q).toArray) = W9 at hr0 ⊢
        generalize wr.heap.size = G9 at hr0 ⊢
        have HR0 := hide hr0
        clear hbA gA hr0 HHP HRT
        go_loopw [10] (fun i wx => ∃ (s : Nat) (r : List UInt8), s ≤ t'.length ∧ i = .int .i64 ((T : Int) - 2 - s) ∧ r = gather q (t'.take s) ∧ r.length = 32 ∧ Hr w tb ((n, q) :: t') (.slice (some ⟨g, 0, none⟩) T cp) G9 r wx) (fun i _ => (intOf i + 1).toNat)
        case atStart => exact ⟨0, q, Nat.zero_le _, val_int (by omega), rfl, hql, unhide HR0⟩
        case round =>
          obtain ⟨s, r, hs, rfl, hr, hrl, hh⟩ := hrel
          have HRR := hide hr
          have HH := hide hh
          clear hr hh
          by_cases hsl : s < t'.length
          · obtain ⟨j, hj⟩ : ∃ j : Nat, j = t'.length - 1 - s := ⟨_, rfl⟩
            have hji : ((T : Int) - 2 - (s : Int)) = (j : Int) := by omega
            rw [hji]
            have hjT : j + 1 < T := by omega
            obtain ⟨p2, hp2⟩ : ∃ p2, p2 = (t'.getD s (0, [])).2 := ⟨_, rfl⟩
            have hel := range_el t' (n, q) (unhide HTL) (by rw [List.length_cons, hT]) (unhide HH).1.2.2.1 hql s hsl
            rw [← hp2, ← hj] at hel
            have hpl : p2.length = 32 := by
              rw [hp2, List.getD, List.getElem?_eq_getElem hsl]
              exact unhide HTL _ (List.getElem_mem hsl)
            have HGN := hide (gather_succ q t' s hsl)
            have HP2 := hide hp2
            have HEL := hide hel
            have dn : (nd p2 r).length = 32 := sha_length _
            have HNd := hide (fun wq => rnode_any tb (unhide HOK) p2 r wq hpl hrl)
            generalize hnd : nd p2 r = dN at HNd dn
            have HND := hide hnd
            have VN := hide (v_dg dN dn)
            have VMp := hide (v_mid p2 hpl)
            have VMr := hide (v_mid r hrl)
            have fj0 : (0 : Int) ≤ (j : Int) := by omega
            have fj1 : (j : Int) < (T : Int) := by omega
            have fd0 : decide ((0 : Int) ≤ (j : Int)) = true := by simp
            have hKeep := hide (fun (wq : World) (h : Below wr.heap.size wr wq) => show Hr w tb ((n, q) :: t') (.slice (some ⟨g, 0, none⟩) T cp) G9 r wq ∧ (wq.rangeAt w.heap.size 0 (ucells tb) ∧ wq.rangeAt g (j * 33 + 1) (bcells p2)) from
              ⟨(unhide HH).below h, rangeAt_below (range_tab (unhide HH).1.1 htl) h (Nat.le_refl _), rangeAt_below (unhide HEL) h (Nat.le_refl _)⟩)
            have hW1 : Below wr.heap.size wr wr.drew := (Below.refl _ _).drew
            have hR8 := (unhide hKeep _ hW1).2
            have hR9 : wr.drew.rangeAt G9 0 (bcells r) := range_of_brow3 (unhide HH).2.1
            have HJ := hide hj
            clear hnd hp2 hj hel hji
            go_wp2_with fail
            refine wp_region_held_drew (S := fun w' => w'.rangeAt w.heap.size 0 (ucells tb) ∧ w'.rangeAt g (j * 33 + 1) (bcells p2)) (by kernel_rfl) hR8 (fun hHeld => ?_)
            refine wpAnyH_take (i := 0) rfl (by kernel_rfl) (by kernel_rfl) (by kernel_rfl) (fun _ _ _ h => h) (yieldsIf_load_mid (by rfl) 26 _ rfl w.heap.size (0) rfl (ucells tb) _ (fun _ h => h.1) Tryd.underlying26 rfl (unhide VTM)) hHeld ?_
            simp only [List.getElem_toArray, List.getElem_cons_zero, Act.put, List.setIfInBounds_toArray, List.set_cons_zero, List.set_cons_succ]
            refine wpAnyH_take (i := 1) (v := .slice (some ⟨g, 0, none⟩) T cp) rfl (by kernel_rfl) (by kernel_rfl) (by kernel_rfl) (fun _ _ _ h => h) (Or.inl ⟨by rfl, fun _ _ => by go_simp⟩) hHeld ?_
            simp only [List.getElem_toArray, List.getElem_cons_zero, List.getElem_cons_succ, Act.put, List.setIfInBounds_toArray, List.set_cons_zero, List.set_cons_succ]
            refine wpAnyH_take (i := 2) (v := .int .i64 j) rfl (by kernel_rfl) (by kernel_rfl) (by kernel_rfl) (fun _ _ _ h => h) (Or.inl ⟨by rfl, fun _ _ => by go_simp⟩) hHeld ?_
            simp only [List.getElem_toArray, List.getElem_cons_zero, List.getElem_cons_succ, Act.put, List.setIfInBounds_toArray, List.set_cons_zero, List.set_cons_succ]
            refine wpAnyH_take (i := 3) (v := .pointer (some ⟨g, j * 33, none⟩)) rfl (by kernel_rfl) (by kernel_rfl) (by kernel_rfl) (fun _ _ _ h => h) (Or.inl ⟨by rfl, fun _ _ => by go_simp⟩) hHeld ?_
            simp only [List.getElem_toArray, List.getElem_cons_zero, List.getElem_cons_succ, Act.put, List.setIfInBounds_toArray, List.set_cons_zero, List.set_cons_succ]
            refine wpAnyH_take (i := 4) (v := .pointer (some ⟨g, j * 33 + 1, none⟩)) rfl (by kernel_rfl) (by kernel_rfl) (by kernel_rfl) (fun _ _ _ h => h) (Or.inl ⟨by rfl, fun _ _ => by go_simp⟩) hHeld ?_
            simp only [List.getElem_toArray, List.getElem_cons_zero, List.getElem_cons_succ, Act.put, List.setIfInBounds_toArray, List.set_cons_zero, List.set_cons_succ]
            refine wpAnyH_take (i := 5) rfl (by kernel_rfl) (by kernel_rfl) (by kernel_rfl) (fun _ _ _ h => h) (yieldsIf_load_mid (by rfl) 31 _ rfl g (j * 33 + 1) rfl (bcells p2) _ (fun _ h => h.2) Tryd.underlying31 rfl (unhide VMp)) hHeld ?_
            simp only [List.getElem_toArray, List.getElem_cons_zero, List.getElem_cons_succ, Act.put, List.setIfInBounds_toArray, List.set_cons_zero, List.set_cons_succ]
            refine wpAnyH_ready (rs := [6]) (by kernel_rfl) (by simp) ?_
            refine AllReadyH.cons rfl (fun K hK => ?_) AllReadyH.nil
            rw [if_pos (by rfl)]
            refine wp_load_mid 31 _ rfl G9 0 rfl (bcells r) _ hR9 Tryd.underlying31 rfl (unhide VMr) ?_
            refine hK.out _ _ hHeld (fun hHeld => ?_)
            clear hK K
            simp only [List.getElem_toArray, List.getElem_cons_zero, List.getElem_cons_succ, Act.put, List.setIfInBounds_toArray, List.set_cons_zero, List.set_cons_succ]
            refine wpAnyH_ready (rs := [7]) (by kernel_rfl) (by simp) ?_
            refine AllReadyH.cons rfl (fun K hK => ?_) AllReadyH.nil
            go_simp
            go_at_call 65
            refine (unhide HNd _).mono ?_
            rintro e w3 ⟨rfl, hb2⟩
            have hb3 : Below wr.heap.size wr w3 := ⟨hb2.os, hb2.tape, hb2.output, hb2.size, hb2.block⟩
            have hh3 := (unhide hKeep _ hb3).1
            dsimp only
            refine hK.out _ _ (unhide hKeep _ hb3).2 (fun hHeld => ?_)
            clear hK K
            refine wpAnyH_ready (rs := [8]) (by kernel_rfl) (by simp) ?_
            refine AllReadyH.cons rfl (fun K hK => ?_) AllReadyH.nil
            rw [if_pos (by rfl)]
            refine wp_store_mid 31 _ _ rfl G9 0 (bcells dN).toArray rfl rfl (by rw [bcells_size, dn]; exact there_of_brow hh3.2.1 hrl) (unhide VN) (bcells_one dN) ?_
            rw [show (bcells dN).toArray.toList = bcells dN from rfl]
            have hh4 := hh3.put dN (by rw [hrl, dn])
            have hS4 : (w3.setCells G9 0 (bcells dN)).rangeAt w.heap.size 0 (ucells tb) ∧ (w3.setCells G9 0 (bcells dN)).rangeAt g (j * 33 + 1) (bcells p2) := by
              refine ⟨range_tab hh4.1.1 htl, ?_⟩
              have hel4 := range_el t' (n, q) (unhide HTL) (by rw [List.length_cons, hT]) hh4.1.2.2.1 hql s hsl
              rw [← unhide HP2, ← unhide HJ] at hel4
              exact hel4
            generalize w3.setCells G9 0 (bcells dN) = w4 at hh4 hS4 ⊢
            refine hK.out _ _ hS4 (fun hHeld => ?_)
            clear hK K
            refine wpAnyH_done (by kernel_rfl) ?_ _
            go_wp2_with fail
            have hj2 := unhide HJ
            exact ⟨⟨s + 1, dN, by omega, val_int (by omega), by rw [unhide HGN, ← unhide HP2, ← unhide HRR]; exact (unhide HND).symm, dn, hh4⟩, by simp [intOf]⟩
          · have hse : s = t'.length := by omega
            have hfin : r = rootL ss := by rw [unhide HRR, hse, List.take_of_length_le (Nat.le_refl _), hgr]
            have HFIN := hide hfin
            have fd0 : decide ((0 : Int) ≤ (T : Int) - 2 - (s : Int)) = false := by simp; omega
            have VR := hide (v_dg r hrl)
            have ZR := hide (v_z32 r hrl)
            have hh := unhide HH
            have HG9 := hide hh.2.1
            have HG4 := hide hh.1.2.1
            have hbf := hh.1.2.2.2.1
            clear hh hse hfin
            go_wp2_with (first | ((with_reducible refine at_load ?_); refine wpList_load_row rfl 31 _ rfl G9 (by rfl) 31 (bcells r).toArray (0, 0) _ (unhide HG9) Tryd.underlying31 rfl (unhide VR) ?_) | ((with_reducible refine at_store ?_); refine wpList_store_row rfl 31 _ _ rfl (w.heap.size + 1) (bcells r).toArray rfl rfl 31 _ (unhide HG4) (unhide VR) (unhide ZR) (bcells_one r) ?_))
            refine bodyPost_ret (v := .agg (bcells r).toArray) ?_ rfl ⟨by rw [unhide HFIN], below_row hbf (by omega) _⟩
            exact results_cell_row Tryd.results45 _ _ (w.heap.size + 1) 31 _ (0, 0) _ rfl (setRow_heap _ _ _ _ _ _ (unhide HG4)) Tryd.underlying31 rfl (unhide VR)
end Go.Proofs.YtanfolfopalbeaaDoor
