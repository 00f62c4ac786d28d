/- The book takes texts: the contract, over the texts of a seat without the strong sum (the body is BookTx's). -/
import Derived.Test.YtanfolfopalbeaaBookG2
import Derived.Deep.RegionLaw
import Derived.Deep.RegionWith
import Derived.Deep.CutRange
import Derived.Laws.CopyRow
import Derived.OwnWalk
namespace Go.Proofs.Ytanfolfopalbeaa
open Go.RowKit

def z32 : List UInt8 := List.replicate 32 0
theorem z32_cells : (bcells z32).toArray = #[.int .u8 0, .int .u8 0, .int .u8 0, .int .u8 0, .int .u8 0, .int .u8 0, .int .u8 0, .int .u8 0, .int .u8 0, .int .u8 0, .int .u8 0, .int .u8 0, .int .u8 0, .int .u8 0, .int .u8 0, .int .u8 0, .int .u8 0, .int .u8 0, .int .u8 0, .int .u8 0, .int .u8 0, .int .u8 0, .int .u8 0, .int .u8 0, .int .u8 0, .int .u8 0, .int .u8 0, .int .u8 0, .int .u8 0, .int .u8 0, .int .u8 0, .int .u8 0] := rfl
theorem heap_put_new (w : World) (c c' : Array Value) (t : TypeId) : ((w.alloc (.cells c t)).setRow w.heap.size c').heap[w.heap.size]? = some (.cells c' t (0, 0)) := setRow_heap _ _ _ _ _ _ (heap_alloc_new w _)
theorem bcells_size (l : List UInt8) : (bcells l).toArray.size = l.length := by simp [bcells]
theorem bcells_one (l : List UInt8) : (bcells l).toArray.all (·.oneCell') = true := by
  rw [Array.all_eq_true']
  intro v hv
  simp only [bcells, List.mem_toArray, List.mem_map] at hv
  obtain ⟨n, _, rfl⟩ := hv
  rfl
theorem v_z32 (d : List UInt8) (h : d.length = 32) : (bcells z32).toArray.size = (bcells d).toArray.size := by rw [bcells_size, bcells_size, h]; rfl

/-- The kind of texts. -/
def Kt (ty : TypeId) (o : Nat) : Kd := ⟨ty, 22, 9, 1, o + 1, o + 2⟩
theorem info_strs : (Try.prog.info? 22).map (fun i => (i.zero, i.size, i.bytes)) = some (some (.slice none 0 0), 1, 24) := by kernel_rfl
theorem v_a32 (d : List UInt8) (h : d.length = 32) : (Try.prog.info? 58).map (·.size) = some (bcells d).toArray.size := by rw [bcells_size, h]; exact info_a32
theorem one_str (s : ByteArray) : ∀ u ∈ [Value.string s], u.oneCell' = true := by intro u hu; rw [List.mem_singleton.1 hu]; rfl

/-- A mark of this kind. -/
def Mt (m : List Value) : Prop := ∃ s : ByteArray, m = [.string s]
set_option maxRecDepth 100000 in
set_option maxHeartbeats 3200000 in
theorem bKt_any (ty : TypeId) (o : Nat) (P : Nat → Prop) (B G n : Nat) (cs : Array Value) (tv xv : Value) (w0 w : World) (recs : List (Value × List Value)) (lv : Value) (nl : Nat) (ls : List (List Value)) (S : StG (Kt ty o) P B w0 w G cs tv xv (recs.map (·.1)) (recs.map (·.2)) recs lv nl ls)
    (hn : cs[o]? = some (.int .i64 (n : Int))) (hb : n ≤ 1099511627776) (hnl : nl ≤ 1000) (hll : ls.length = nl) (hl32 : ∀ d ∈ ls, d.length = 1) (hrl : recs.length ≤ 1099511627776) (hnew : ∀ r ∈ recs, ∀ g, lv.ownBlock = some g → r.1.ownBlock ≠ some g) (hmk0 : Marked Mt P recs) :
    Calls Try.prog 20 #[.pointer (some ⟨G, o, none⟩), lv] w fun e w' => ∃ cs' tv' xv' recs', StG (Kt ty o) P B w0 w' G cs' tv' xv' (recs'.map (·.1)) (recs'.map (·.2)) recs' (.slice none 0 0) 0 [] ∧ Marked Mt P recs' ∧ recs'.length = recs.length + 4 ∧ CsK (Kt ty o) o cs cs' (n + 1) ∧ e = .returned (.tuple #[]) := by
  have hmk := markO_any G o cs ty n w S.bk.1 hn hb
  obtain ⟨iS, hiS, hzS0, hzS1, hzS2⟩ := info_parts info_strs
  obtain ⟨i0, hi0, hz0, hz1, hz2⟩ := info_parts info_str
  have HS := hide S
  have HM0 := hide hmk0
  clear S hmk0
  obtain ⟨ao, cap, rfl⟩ := own_shape (unhide HS).hl
  go_enter Try.func20, Try.ntmps20
  go_wp2_with fail
  refine hmk.mono ?_
  rintro e w1 ⟨tb, htb, rfl, hB1, hg1⟩
  have S1 := (unhide HS).count hg1 ((unhide HS).bk.num hB1 (by simp [Kt]) (by simp [Kt]))
  have HCS0 := hide (CsK.start (K := Kt ty o) (n := n + 1) hn)
  generalize cs.setIfInBounds o (.int .i64 ((n + 1 : Nat) : Int)) = cs1 at S1 HCS0
  have K1 := hide (v_a32 tb htb)
  have K2 := hide (v_z32 tb htb)
  have hrow : ((w1.alloc (.cells (bcells z32).toArray 58)).setRow w1.heap.size (bcells tb).toArray).heap[w1.heap.size]? = some (.cells (bcells tb).toArray 58 (0, 0)) := heap_put_new _ _ _ _
  have HS2 := hide (S1.later (put_grown w1 (.cells (bcells z32).toArray 58) (bcells tb).toArray))
  have HNEW := hide (fun r hr g hg => hnew r hr g hg)
  have HROW := hide hrow
  clear hrow hB1 hg1 S1 HS hmk hnew hn
  go_upto_region 1 with (((with_reducible refine at_store ?_); rw [← z32_cells]; go_must (refine wpList_store_row rfl 58 _ _ rfl w1.heap.size (bcells tb).toArray rfl rfl 58 _ (heap_alloc_new w1 _) (unhide K1) (unhide K2) (bcells_one tb) ?_)))
  generalize ((w1.alloc (.cells (bcells z32).toArray 58)).setRow w1.heap.size (bcells tb).toArray) = W2 at HS2 HROW ⊢
  generalize w1.heap.size = R at HROW ⊢
  have hcv := run_convert_bytes_back (P := Try.prog) W2 69 9 5 ⟨R, 0, none⟩ 32 tb Try.underlying69 Try.underlying5 Try.underlying9 (by
    intro j hj
    rw [Addr.add_lit, cell_of_row W2 R _ _ _ _ (unhide HROW)]
    simp [bcells, List.getElem?_eq_getElem hj])
  rw [htb] at hcv
  generalize (ByteArray.mk tb.toArray) = s at hcv
  have HMT := hide (show Mt [.string s] from ⟨s, rfl⟩)
  have ht : [Value.string s].length = 1 := rfl
  go_wp2_with fail
  clear hcv HROW K1 K2
  go_loopw [6] (fun v wr => ∃ i : Nat, i ≤ nl ∧ v = .int .i64 i ∧ StG (Kt ty o) P B w0 wr G cs1 tv xv (recs.map (·.1)) (recs.map (·.2)) recs (.slice ao nl cap) nl (List.replicate i [.string s] ++ ls.drop i)) (fun v _ => nl - (intOf v).toNat)
  case atStart => exact ⟨0, Nat.zero_le _, rfl, unhide HS2⟩
  case round =>
    clear HS2
    obtain ⟨i, hi, rfl, S⟩ := hrel
    have HS := hide S
    by_cases hlt : i < nl
    · have hd : decide ((i : Int) < (nl : Int)) = true := by simp; omega
      have j0 : (0 : Int) ≤ (i : Int) := by omega
      have j1 : (i : Int) < (nl : Int) := by omega
      obtain ⟨g, hao⟩ : ∃ g, ao = some ⟨g, 0, none⟩ := by
        rcases S.hl.2 with ⟨h, h0⟩ | ⟨g, cap', cur, h, _⟩
        · omega
        · injection h with h _ _; exact ⟨g, h⟩
      subst hao
      have hth := S.room rfl hlt 0 (by show 0 < 1; omega)
      obtain ⟨u, hu⟩ := Option.isSome_iff_exists.1 hth.1
      have hcu : wr.cell? ⟨g, i, none⟩ = some u := by
        have : i * (Kt ty o).sz + 0 = i := by show i * 1 + 0 = i; omega
        rw [this] at hu
        exact hu
      have hfu : wr.frozen? ⟨g, i, none⟩ = false := by
        have : i * (Kt ty o).sz + 0 = i := by show i * 1 + 0 = i; omega
        have h9 := hth.2
        rw [this] at h9
        exact h9
      clear S hth hu
      go_wp2
      refine ⟨⟨i + 1, by omega, by go_num, ?_⟩, by simp [intOf]; omega⟩
      have := (unhide HS).put (i := i) (x := [.string s]) rfl (fun d hd => by
        rcases List.mem_append.1 hd with hd | hd
        · rw [(List.mem_replicate.1 hd).2]; rfl
        · exact hl32 d (List.mem_of_mem_drop hd)) (by simp; omega) (by simp; omega) rfl (fun r hr => unhide HNEW r hr g rfl)
      rw [fill_el _ _ _ (by omega)] at this
      have e1 : i * (Kt ty o).sz = i := Nat.mul_one i
      rw [e1] at this
      exact this
    · have hd : decide ((i : Int) < (nl : Int)) = false := by simp; omega
      have S5 : StG (Kt ty o) P B w0 wr G cs1 tv xv (recs.map (·.1)) (recs.map (·.2)) recs (.slice ao nl cap) nl (List.replicate nl [.string s]) := by
        have h9 := S
        rw [show i = nl by omega, List.drop_eq_nil_of_le (by omega), List.append_nil] at h9
        exact h9
      have HS5 := hide S5
      clear S HS S5
      go_wp2
      go_loopw [1, 7] (fun lv tk wr => ∃ (k : Nat) (cs' : Array Value) (tv' xv' : Value) (recs' : List (Value × List Value)), k ≤ 4 ∧ tk = .int .i64 k ∧ recs'.length = recs.length + k ∧ Marked Mt P recs' ∧ CsK (Kt ty o) o cs cs' (n + 1) ∧ StG (Kt ty o) P B w0 wr G cs' tv' xv' (recs'.map (·.1)) (recs'.map (·.2)) recs' lv (nl + k) (List.replicate (nl + k) [.string s])) (fun _ tk _ => 4 - (intOf tk).toNat)
      case atStart => exact ⟨0, cs1, tv, xv, recs, by omega, rfl, rfl, unhide HM0, unhide HCS0, unhide HS5⟩
      case round =>
        clear HS5 HCS0
        obtain ⟨k, cs', tv', xv', recs', hk, rfl, hrl', hmk', hcs', S⟩ := hrel
        have HMK := hide hmk'
        clear hmk'
        have HCS := hide hcs'
        clear hcs'
        obtain ⟨al, cl, rfl⟩ := own_shape S.hl
        by_cases hlt4 : k < 4
        · have hd4 : decide ((k : Int) < 4) = true := by simp; omega
          have c3 : wr.cell? ⟨G, o + 1, none⟩ = some tv' := S.bk.cell1
          have hN1 : (recs'.map (·.1)).length = recs.length + k := by rw [List.length_map]; exact hrl'
          have hN2 : (recs'.map (·.2)).length = recs.length + k := by rw [List.length_map]; exact hrl'
          have hB := S.sz
          have hbG := S.bk.lt
          have HRL := hide hrl'
          have HT1 := hide (show ∀ (y : Value) (z : List Value), (recs' ++ [(y, z)]).map (fun r : Value × List Value => r.1) = recs'.map (fun r : Value × List Value => r.1) ++ [y] from fun y z => by simp)
          have HT2 := hide (show ∀ (y : Value) (z : List Value), (recs' ++ [(y, z)]).map (fun r : Value × List Value => r.2) = recs'.map (fun r : Value × List Value => r.2) ++ [z] from fun y z => by simp)
          obtain ⟨q1, q2, _⟩ := bq_lenG (recs'.map (·.1)).length (by omega)
          obtain ⟨q3, _, _, _, q4⟩ := bq_lenG (recs'.map (·.2)).length (by omega)
          obtain ⟨q5, _, _, _, q6⟩ := bq_lenG (nl + k) (by omega)
          generalize recs'.map (·.1) = tl at S q1 q2 HT1
          generalize recs'.map (·.2) = xl at S q3 q4 HT2
          have HS := hide S
          clear S hN1 hN2 hrl'
          go_upto_region 10 with (at_builtin; (with_reducible refine at_app 30 ?_); refine wpList_append_keeps _ rfl (.tmp 30) (.tmp 32) 24 rfl B 22 iS (.slice none 0 0) 1 24 Try.underlying24 hiS hzS0 hzS1 hzS2 rfl (by decide) _ _ _ rfl ((unhide HS).ht.alloc _) ⟨wr.heap.size, 0, none⟩ 1 1 [.slice al (nl + k) cl] rfl rfl (one_new _ _ _ _ rfl) (one_slc _ _ _) (by decide) q1 q2 (by simp; omega) ?_; intro ga ca wa hownA hgrowA hatA _ _; have hsA := hgrowA.size; have hBa := (unhide HS).bk.same ((grown_trans (World.grownBy_alloc wr _ _) hgrowA).block G hbG (fun e => (unhide HS).tG e.symm)); have c3a : wa.cell? ⟨G, o + 1, none⟩ = some tv' := hBa.cell1; have f3a : wa.frozen? ⟨G, o + 1, none⟩ = false := hBa.free _; have SA : Hid (StG (Kt ty o) P B w0 (wa.setCell ⟨G, o + 1, none⟩ (.slice (some ⟨ga, 0, none⟩) (tl.length + 1) ca)) G _ (.slice (some ⟨ga, 0, none⟩) (tl.length + 1) ca) xv' (tl ++ [.slice al (nl + k) cl]) xl _ (.slice al (nl + k) cl) (nl + k) (List.replicate (nl + k) [.string s])) := hide ((unhide HS).texts hownA hgrowA hatA); clear hBa hownA hgrowA hatA)
          generalize (wa.setCell ⟨G, o + 1, none⟩ (.slice (some ⟨ga, 0, none⟩) (tl.length + 1) ca)) = WA at SA ⊢
          clear c3 c3a f3a
          have c4 : WA.cell? ⟨G, o + 2, none⟩ = some xv' := (unhide SA).bk.cell2
          go_upto_region 11 with (at_builtin; (with_reducible refine at_app 40 ?_); refine wpList_append_keeps _ rfl (.tmp 40) (.tmp 42) 22 rfl B 9 i0 (.string ⟨#[]⟩) 1 16 Try.underlying22 hi0 hz0 hz1 hz2 rfl (by decide) _ _ _ rfl ((unhide SA).hx.alloc _) ⟨WA.heap.size, 0, none⟩ 1 1 [.string s] rfl rfl (one_new _ _ _ _ rfl) (one_str s) (by decide) q3 q4 (Nat.le_of_lt (Nat.lt_of_le_of_lt (unhide SA).sz (by simp))) ?_; intro gx cx wx hownX hgrowX hatX _ _; have hBx := (unhide SA).bk.same ((grown_trans (World.grownBy_alloc _ _ _) hgrowX).block G (unhide SA).bk.lt (fun e => (unhide SA).xG e.symm)); have c4x : wx.cell? ⟨G, o + 2, none⟩ = some xv' := hBx.cell2; have f4x : wx.frozen? ⟨G, o + 2, none⟩ = false := hBx.free _; have SX : Hid (StG (Kt ty o) P B w0 (wx.setCell ⟨G, o + 2, none⟩ (.slice (some ⟨gx, 0, none⟩) (xl.length + 1) cx)) G _ _ (.slice (some ⟨gx, 0, none⟩) (xl.length + 1) cx) _ (xl ++ [[.string s]]) _ (.slice al (nl + k) cl) (nl + k) (List.replicate (nl + k) [.string s])) := hide ((unhide SA).text rfl rfl hownX hgrowX hatX); clear hBx hownX hgrowX hatX)
          generalize (wx.setCell ⟨G, o + 2, none⟩ (.slice (some ⟨gx, 0, none⟩) (xl.length + 1) cx)) = WX at SX ⊢
          clear c4 c4x f4x SA HS
          go_wp2_with (at_builtin; refine wpList_append_keeps _ rfl (.tmp 46) (.tmp 48) 22 rfl B 9 i0 (.string ⟨#[]⟩) 1 16 Try.underlying22 hi0 hz0 hz1 hz2 rfl (by decide) _ _ _ rfl ((unhide SX).hl.alloc _) ⟨WX.heap.size, 0, none⟩ 1 1 [.string s] rfl rfl (one_new _ _ _ _ rfl) (one_str s) (by decide) q5 q6 (Nat.le_of_lt (Nat.lt_of_le_of_lt (unhide SX).sz (by simp))) ?_; intro gl cll wl hownL hgrowL hatL _ hkeepL; have SL := hide ((unhide SX).grow (ls' := List.replicate (nl + k + 1) [.string s]) (by rw [List.replicate_succ', fl_snoc]; exact hownL) hgrowL hatL hkeepL); clear hownL hgrowL hatL hkeepL)
          refine ⟨⟨k + 1, (cs'.setIfInBounds (Kt ty o).i1 (.slice (some ⟨ga, 0, none⟩) (tl.length + 1) ca)).setIfInBounds (Kt ty o).i2 (.slice (some ⟨gx, 0, none⟩) (xl.length + 1) cx), .slice (some ⟨ga, 0, none⟩) (tl.length + 1) ca, .slice (some ⟨gx, 0, none⟩) (xl.length + 1) cx, recs' ++ [(.slice al (nl + k) cl, [.string s])], by omega, by go_num, by rw [List.length_append, unhide HRL]; rfl, (unhide HMK).snoc (unhide HMT) (fun k hk => ((unhide SX).pr k hk).2.2.2.2.2), ((unhide HCS).set1 (by simp [Kt]) _).set2 (by simp [Kt]) _, ?_⟩, by simp [intOf]; omega⟩
          have hSL := unhide SL
          rw [← unhide HT1 (.slice al (nl + k) cl) [.string s], ← unhide HT2 (.slice al (nl + k) cl) [.string s]] at hSL
          exact hSL
        · have hd4 : decide ((k : Int) < 4) = false := by simp; omega
          have hk4 : k = 4 := by omega
          have HS := hide S.drop
          clear S
          rw [hk4] at hrl'
          have HRL := hide hrl'
          clear hrl' hk4
          go_wp2
          exact bodyPost_end (results_none Try.results20 _ _ _) rfl ⟨cs', tv', xv', recs', unhide HS, unhide HMK, unhide HRL, unhide HCS, rfl⟩
end Go.Proofs.Ytanfolfopalbeaa
