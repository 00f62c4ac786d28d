import Derived.Test.YtanfolfopalbeabDoorRefOld
import Derived.Test.YtanfolfopalbeabDoorRefMay
import Derived.Test.YtanfolfopalbeabDoorProofMath
namespace Go.Proofs.YtanfolfopalbeabDoor
open Go.RowKit

set_option maxRecDepth 100000 in
set_option maxHeartbeats 400000 in
theorem pair_any (v : Nat) (w : World) (hv : v < 65536) :
    Calls Tryd.prog 75 #[.int .u16 v] w fun e w' => e = .returned (.string ⟨(two v).toArray⟩) ∧ Below w.heap.size w w' := by
  have hk := str_of_two Tryd.prog w 57 9 5 5 v hv Tryd.underlying57 Tryd.underlying5 Tryd.underlying9
  go_enter Tryd.func75, Tryd.ntmps75
  go_wp2
  go_ret
  exact ⟨rfl, (Below.refl _ _).alloc (Nat.le_refl _) _⟩

set_option maxRecDepth 100000 in
set_option maxHeartbeats 400000 in
theorem texts_empty (v : Nat) (ao : Option Addr) (cap : Nat) (w : World) :
    Calls Tryd.prog 49 #[.int .u16 v, .slice ao 0 cap] w fun e w' => e = .returned (.tuple #[.slice none 0 0, .int .u16 v]) ∧ w' = w := by
  go_enter Tryd.func49, Tryd.ntmps49
  go_wp2
  refine wp_loop_rounds 1 ?_
  rw [rounds_succ]
  go_wp2
  go_ret2
  exact ⟨rfl, rfl⟩

set_option maxRecDepth 100000 in
set_option maxHeartbeats 800000 in
theorem texts_some (v0 b off cap : Nat) (ss : List ByteArray) (w : World) (hv0 : v0 < 65536) (hm : ss.length * 16 ≤ 140737488351232) (hz : ∀ i, i < ss.length → (ss.getD i ByteArray.empty).size ≤ 140737488351232)
    (hc : ∀ i, i < ss.length → w.cell? ⟨b, off + i, none⟩ = some (.string (ss.getD i ByteArray.empty))) :
    Calls Tryd.prog 49 #[.int .u16 v0, .slice (some ⟨b, off, none⟩) ss.length cap] w fun e w' => ∃ v, e = .returned (.tuple #[v, .int .u16 (last v0 (bs ss))]) ∧
      w'.ownsRow w.heap.size 9 1 v ss.length (((txts v0 (bs ss)).map mk).map Value.string) ∧ Below w.heap.size w w' := by
  have HC := hide hc
  have HZ := hide hz
  clear hc hz
  obtain ⟨i0, hi, hz0, hz1, hz2⟩ := info_parts info_str
  go_enter Tryd.func49, Tryd.ntmps49
  go_wp2
  go_loopw [0, 6, 7] (fun f v i wr => ∃ k : Nat, k ≤ ss.length ∧ i = .int .i64 k ∧ f = .int .u16 (last v0 (bs (ss.take k))) ∧ wr.ownsRow w.heap.size 9 1 v k (((txts v0 (bs (ss.take k))).map mk).map Value.string) ∧ Below w.heap.size w wr) (fun _ _ i _ => ss.length - (intOf i).toNat)
  case atStart => exact ⟨0, Nat.zero_le _, rfl, rfl, World.ownsRow_nil _ _ _ _, Below.refl _ _⟩
  case round =>
    obtain ⟨k, hk, rfl, rfl, hown, hbel⟩ := hrel
    by_cases hlt : k < ss.length
    · obtain ⟨s, hs⟩ : ∃ s, s = ss.getD k ByteArray.empty := ⟨_, rfl⟩
      have hck0 := unhide HC k hlt
      have hss := unhide HZ k hlt
      rw [← hs] at hck0 hss
      have HB := hide (bs_take_succ ss k hlt)
      have HL := hide (last_snoc (bs (ss.take k)) s.data.toList v0)
      have HX := hide (txts_snoc (bs (ss.take k)) s.data.toList v0)
      have HS := hide hs
      clear hs
      have hcc : ∀ wq, Below wr.heap.size wr wq → wq.cell? ⟨b, off + k, none⟩ = some (.string s) := fun wq hq => by
        have h1 : b < w.heap.size := cell_lt hck0
        rw [hq.cell (p := ⟨b, off + k, none⟩) (Nat.lt_of_lt_of_le h1 hbel.size), hbel.cell (p := ⟨b, off + k, none⟩) h1]; exact hck0
      have hv := last_lt (bs (ss.take k)) v0 hv0
      generalize last v0 (bs (ss.take k)) = v at *
      generalize txts v0 (bs (ss.take k)) = tx at *
      have hck := hcc wr (Below.refl _ _)
      have HCC := hide hcc
      have f1 : (k : Int) < (ss.length : Int) := by omega
      have f2 : (0 : Int) ≤ (k : Int) := by omega
      have hd1 : decide ((k : Int) < (ss.length : Int)) = true := by simp; omega
      have hz2 : (two v).length = 2 := rfl
      clear hcc hck0
      go_wp2_with fail
      go_region_with (go_at_call 75; refine (pair_any v _ hv).mono ?_; rintro e w2 ⟨rfl, hb2⟩; have hck2 := unhide HCC w2 ⟨hb2.os, hb2.tape, hb2.output, hb2.size, hb2.block⟩)
      all_goals
        have hb2' : Below wr.heap.size wr w2 := ⟨hb2.os, hb2.tape, hb2.output, hb2.size, hb2.block⟩
        have hown2 := own_below hown hb2' (Nat.le_refl _)
        have hbel2 := hbel.trans (hb2'.mono hbel.size)
        have hsz2 := hbel2.size
        have hts : (ByteArray.mk (two v).toArray ++ s).size = 2 + s.size := by simp; rfl
        have htd : (ByteArray.mk (two v).toArray ++ s).data.toList = two v ++ s.data.toList := by simp
        generalize ByteArray.mk (two v).toArray ++ s = T at hts htd ⊢
        have HTD := hide htd
        clear hck hck2 hown hbel hb2 hb2' htd HCC
        go_wp2_with (at_builtin; go_must (refine wpList_append_own _ rfl (.tmp 22) (.tmp 24) 23 rfl w.heap.size 9 i0 (.string ⟨#[]⟩) 1 16 Tryd.underlying23 hi hz0 hz1 (by assumption) rfl (by decide) _ _ _ rfl (hown2.alloc _) ⟨w2.heap.size, 0, none⟩ 1 1 [.string T] rfl rfl (cell_one_new _ _ _) (by intro u hu; simp at hu; subst hu; rfl) (by unfold maxLen; omega) (by omega) (by simp; omega) ?_))
        intro v3 w3 hown3 hgrow3 _
        have hbel3 : Below w.heap.size w w3 := (hbel2.alloc hsz2 _).grown hgrow3 (by simp; omega) (own_row_ge hown2)
        clear hgrow3 hown2 hbel2
        go_wp2_with fail
        refine (rOld_any T _ (by unfold maxLen; omega)).mono ?_
        rw [unhide HTD]
        rintro e w4 ⟨rfl, rfl⟩
        go_wp2
        go_roundw
      any_goals (simp only [intOf]; omega)
      all_goals
        have hmk : [two v ++ s.data.toList].map mk = [T] := by rw [List.map_cons, List.map_nil, ← unhide HTD]; exact congrArg (fun x => [x]) (mk_self T)
        refine ⟨k + 1, by omega, by go_num, ?_, ?_, hbel3⟩
        · rw [unhide HB, ← unhide HS, unhide HL]
          rfl
        · rw [unhide HB, ← unhide HS, unhide HX, List.map_append, List.map_append, hmk, List.map_map]
          exact hown3
    · have hke : ss.take k = ss := List.take_of_length_le (by omega)
      have hkl : k = ss.length := by omega
      rw [hke] at hown ⊢
      have hd1 : decide ((k : Int) < (ss.length : Int)) = false := by simp; omega
      have HK := hide hkl
      clear hke hkl
      go_wp2
      go_ret2
      exact ⟨_, rfl, by rw [← unhide HK]; exact hown, hbel⟩

theorem texts_any (v0 : Nat) (v : Value) (ss : List ByteArray) (w : World) (h : Strs w v ss) (hv0 : v0 < 65536) (hm : ss.length * 16 ≤ 140737488351232) (hz : ∀ i, i < ss.length → (ss.getD i ByteArray.empty).size ≤ 140737488351232) :
    Calls Tryd.prog 49 #[.int .u16 v0, v] w fun e w' => ∃ v', e = .returned (.tuple #[v', .int .u16 (last v0 (bs ss))]) ∧
      w'.ownsRow w.heap.size 9 1 v' ss.length (((txts v0 (bs ss)).map mk).map Value.string) ∧ Below w.heap.size w w' := by
  obtain ⟨ao, cap, rfl, h1, h2, h3⟩ := h
  rcases h3 with rfl | ⟨b, off, rfl, hc⟩
  · refine (texts_empty v0 ao cap w).mono ?_
    rintro e w' ⟨rfl, rfl⟩
    exact ⟨_, rfl, World.ownsRow_nil _ _ _ _, Below.refl _ _⟩
  · exact texts_some v0 b off cap ss w hv0 hm hz hc

set_option maxRecDepth 100000 in
set_option maxHeartbeats 400000 in
theorem head_any (v : Value) (ss : List ByteArray) (w : World) (h : Strs w v ss) (hm : ss.length * 16 ≤ 140737488351232) (hz : ∀ i, i < ss.length → (ss.getD i ByteArray.empty).size ≤ 140737488351232) :
    Calls Tryd.prog 47 #[v] w fun e w' => e = .returned (.int .u16 (last 0 (bs ss))) ∧ Below w.heap.size w w' := by
  have HS := hide h
  have HZ := hide hz
  clear h hz
  go_enter Tryd.func47, Tryd.ntmps47
  go_wp2_with fail
  refine (texts_any 0 v ss _ (unhide HS) (by decide) hm (unhide HZ)).mono ?_
  rintro e w1 ⟨v1, rfl, hown, hb⟩
  go_wp2
  go_ret
  exact ⟨rfl, hb⟩

theorem conv_at (wq : World) (g : Nat) (y : Int) (h : wq.cell? ⟨g, 0, none⟩ = some (.int .u8 y)) : (convert 57 9 (.slice (some ⟨g, 0, none⟩) 1 1)).run Tryd.prog wq = .ok (.string (strOfNums [y])) wq :=
  run_convert_bytes_arg (P := Tryd.prog) _ 57 5 Tryd.underlying57 Tryd.underlying5 g 0 1 1 [y] rfl (fun i hi => by
    have hi0 : i = 0 := by omega
    subst hi0
    exact h) 9 Tryd.underlying9
theorem conv_new (wq : World) (y : Int) : (convert 57 9 (.slice (some ⟨wq.heap.size, 0, none⟩) 1 1)).run Tryd.prog (wq.alloc (.cells #[.int .u8 y] 5)) = .ok (.string (strOfNums [y])) (wq.alloc (.cells #[.int .u8 y] 5)) :=
  conv_at _ _ _ (World.cell?_alloc_mark wq _ _ _ _)
theorem conv_drew (wq : World) (y : Int) : (convert 57 9 (.slice (some ⟨wq.heap.size, 0, none⟩) 1 1)).run Tryd.prog (wq.alloc (.cells #[.int .u8 y] 5)).drew = .ok (.string (strOfNums [y])) (wq.alloc (.cells #[.int .u8 y] 5)).drew :=
  conv_at _ _ _ (World.cell?_alloc_mark wq _ _ _ _)
theorem conv_later {wq w4 : World} {y : Int} (hb : Below (wq.alloc (.cells #[.int .u8 y] 5)).drew.heap.size (wq.alloc (.cells #[.int .u8 y] 5)).drew w4) :
    (convert 57 9 (.slice (some ⟨wq.heap.size, 0, none⟩) 1 1)).run Tryd.prog w4 = .ok (.string (strOfNums [y])) w4 :=
  conv_at _ _ _ (by
    rw [hb.cell (p := ⟨wq.heap.size, 0, none⟩) (by show wq.heap.size < (wq.alloc _).heap.size; simp)]
    exact World.cell?_alloc_mark wq _ _ _ _)

theorem frame_text (l l2 : Nat) (s : ByteArray) (h : lnk l s.data.toList = l2) : strOfNums [(s.size : Int)] ++ s ++ ByteArray.mk (two l2).toArray = mk (frm l s.data.toList) := by
  have e : (strOfNums [(s.size : Int)] ++ s ++ ByteArray.mk (two l2).toArray).data = (mk (frm l s.data.toList)).data := by
    apply Array.ext'
    rw [ByteArray.data_append, ByteArray.data_append, Array.toList_append, Array.toList_append]
    subst h
    have e1 : (strOfNums [(s.size : Int)]).data.toList = [UInt8.ofNat s.data.toList.length] := rfl
    rw [e1, mk_data, frm]
    simp
  exact congrArg ByteArray.mk e

set_option maxRecDepth 100000 in
set_option maxHeartbeats 1600000 in
theorem frame_ref (v : Value) (ss : List ByteArray) (s : ByteArray) (w : World) (h : Strs w v ss) (hm : ss.length ≤ 100) (hz : ∀ i, i < ss.length → (ss.getD i ByteArray.empty).size ≤ 20) (hs : s.size ≤ 20) :
    Calls Tryd.prog 74 #[v, .string s] w fun e w' => e = .returned (.string (mk (frm (last 0 (bs ss)) s.data.toList))) ∧ Below w.heap.size w w' := by
  have HS := hide h
  have HZ := hide hz
  clear h hz
  go_enter Tryd.func74, Tryd.ntmps74
  go_wp2_with fail
  refine (head_any v ss _ (unhide HS) (by omega) (fun i hi => Nat.le_trans (unhide HZ i hi) (by omega))).mono ?_
  rintro e w1 ⟨rfl, hb1⟩
  have hv := last_lt (bs ss) 0 (by omega)
  generalize hve : last 0 (bs ss) = l at hv ⊢
  have HVE := hide hve
  clear hve
  go_wp2_with fail
  refine (pair_any l _ hv).mono ?_
  rintro e w2 ⟨rfl, hb2⟩
  have hbel2 := hb1.trans (hb2.mono hb1.size)
  have hz2 : (two l).length = 2 := rfl
  clear hb1 hb2
  go_wp2_with fail
  refine (rOld_any _ _ (by unfold maxLen; rw [ByteArray.size_append, two_size]; omega)).mono ?_
  rw [show (ByteArray.mk (two l).toArray ++ s).data.toList = two l ++ s.data.toList by simp]
  rintro e w3 ⟨rfl, rfl⟩
  have hv2 := lnk_lt l s.data.toList
  have HLN := hide (show lnk l s.data.toList = wk (two l ++ s.data.toList) from by unfold lnk; exact Eq.refl _)
  rw [← unhide HLN]
  generalize hle : lnk l s.data.toList = l2 at hv2 ⊢
  have HLE := hide hle
  clear hle HLN
  have hcv := conv_new
  have hcd := conv_drew
  have hsn : ∀ y : Int, (strOfNums [y]).size = 1 := fun y => rfl
  have hz3 : (two l2).length = 2 := rfl
  go_wp2_with fail
  go_region_with (go_at_call 75; refine (pair_any l2 _ hv2).mono ?_; rintro e w4 ⟨rfl, hb4⟩; first | (have hcq := conv_later hb4) | skip)
  all_goals
    go_wp2
    go_ret
    refine ⟨?_, ?_⟩
    · exact congrArg (fun x => Ending.returned (Value.string x)) ((frame_text l l2 s (unhide HLE)).trans (by rw [unhide HVE]))
    · first
        | exact hbel2.drew.trans (hb4.mono hbel2.size)
        | exact (hbel2.drew.trans (hb4.mono hbel2.size)).alloc (Nat.le_trans hbel2.size hb4.size) _
        | exact (hbel2.alloc hbel2.size _).drew.trans (hb4.mono (by show w.heap.size ≤ (w3.alloc _).heap.size; have := hbel2.size; simp; omega))
end Go.Proofs.YtanfolfopalbeabDoor
