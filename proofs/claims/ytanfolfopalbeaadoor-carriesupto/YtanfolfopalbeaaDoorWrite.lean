import Derived.Test.YtanfolfopalbeaaDoorCheck
import Derived.Lib.AppendStr
import Derived.Outline
namespace Go.Proofs.YtanfolfopalbeaaDoor
open Go.RowKit

theorem info_u8 : (Tryd.prog.info? 5).map (fun i => (i.zero, i.size, i.bytes)) = some (some (.int .u8 0), 1, 1) := by kernel_rfl

/-- Bytes as cells. -/
def bcells (l : List UInt8) : List Value := l.map fun b => Value.int .u8 (b.toNat : Int)
theorem bcells_append (a b : List UInt8) : bcells (a ++ b) = bcells a ++ bcells b := by simp [bcells]
theorem bcells_length (a : List UInt8) : (bcells a).length = a.length := by simp [bcells]

theorem own_below {w w' : World} {base : Nat} {e : TypeId} {size : Nat} {v : Value} {n : Nat} {xs : List Value} {B : Nat} (h : w.ownsRow base e size v n xs) (hb : Below B w w') (hB : w.heap.size ≤ B) : w'.ownsRow base e size v n xs := by
  obtain ⟨h1, h2⟩ := h
  refine ⟨h1, ?_⟩
  rcases h2 with h2 | ⟨g, cap, cur, rfl, h3, h4, h5⟩
  · exact .inl h2
  · refine .inr ⟨g, cap, cur, rfl, h3, ?_, h5⟩
    rw [hb.block g (Nat.lt_of_lt_of_le (lt_of_block h4) hB)]
    exact h4
theorem own_row_ge {w : World} {base : Nat} {e : TypeId} {size : Nat} {v : Value} {n : Nat} {xs : List Value} (h : w.ownsRow base e size v n xs) : ∀ k, v.ownBlock = some k → base ≤ k := fun k hk => (h.lt k hk).1
theorem strCells_eq (s : ByteArray) : Lib.strCells s = bcells s.data.toList := rfl
theorem byte_len (s : ByteArray) (h : s.size ≤ 20) : (s.size : Int) = ((UInt8.ofNat s.data.toList.length).toNat : Int) := by
  rw [UInt8.toNat_ofNat']
  have : s.data.toList.length = s.size := rfl
  omega
theorem frm_cells (v : Nat) (s : ByteArray) : bcells (frm v s.data.toList) = [Value.int .u8 ((UInt8.ofNat s.data.toList.length).toNat : Int)] ++ Lib.strCells s ++ Lib.strCells ⟨(two (lnk v s.data.toList)).toArray⟩ := by
  simp [bcells, frm, Lib.strCells]

set_option maxHeartbeats 800000 in
theorem write_ok (b off cap : Nat) (ss : List ByteArray) (w : World) (hm : ss.length ≤ 100) (hsz : ∀ i, i < ss.length → (ss.getD i ByteArray.empty).size ≤ 20)
    (hc : ∀ i, i < ss.length → w.cell? ⟨b, off + i, none⟩ = some (.string (ss.getD i ByteArray.empty))) (hchk : chk ss = 0) (hS : Strs w (.slice (some ⟨b, off, none⟩) ss.length cap) ss) :
    Calls Tryd.prog 55 #[.slice (some ⟨b, off, none⟩) ss.length cap] w fun e w' => e = .returned (.tuple #[.string ⟨(olog 0 (bs ss)).toArray⟩, .int .i64 0]) ∧ Below w.heap.size w w' := by
  have HC := hide hc
  have HZ := hide hsz
  have HK := hide hchk
  have HS := hide hS
  clear hc hsz hchk hS
  obtain ⟨i0, hi, hz0, hz1, hz2⟩ := info_parts info_u8
  go_enter Tryd.func55, Tryd.ntmps55
  go_wp2_with fail
  refine (check_any _ ss _ (unhide HS)).mono ?_
  rw [unhide HK]
  rintro e w1 ⟨rfl, rfl⟩
  go_wp2
  go_loopw [5, 6, 16] (fun v l i wr => ∃ k : Nat, k ≤ ss.length ∧ i = .int .i64 k ∧ l = .int .u16 (last 0 (bs (ss.take k))) ∧
      wr.ownsRow w1.heap.size 5 1 v (olog 0 (bs (ss.take k))).length (bcells (olog 0 (bs (ss.take k)))) ∧ Below w1.heap.size w1 wr) (fun _ _ i _ => ss.length - (intOf i).toNat)
  case atStart => exact ⟨0, Nat.zero_le _, rfl, rfl, World.ownsRow_nil _ _ _ _, Below.refl _ _⟩
  case round =>
    obtain ⟨k, hk, rfl, rfl, hown, hbel⟩ := hrel
    by_cases hlt : k < ss.length
    · obtain ⟨s, hs⟩ : ∃ s, s = ss.getD k ByteArray.empty := ⟨_, rfl⟩
      have hck0 := unhide HC k hlt
      have hss := unhide HZ k hlt
      rw [← hs] at hck0 hss
      have HS2 := hide hs
      clear hs
      have hck : wr.cell? ⟨b, off + k, none⟩ = some (.string s) := by rw [hbel.cell (p := ⟨b, off + k, none⟩) (cell_lt hck0)]; exact hck0
      have hv := last_lt (bs (ss.take k)) 0 (by omega)
      have HO := hide (olog_snoc (bs (ss.take k)) s.data.toList 0)
      have HL := hide (last_snoc (bs (ss.take k)) s.data.toList 0)
      have HB := hide (bs_take_succ ss k hlt)
      have hlen : (olog 0 (bs (ss.take k))).length ≤ 2300 := by
        have := olog_length_le (bs (ss.take k)) (by
          intro e he
          simp only [bs, List.mem_map] at he
          obtain ⟨x, hx, rfl⟩ := he
          obtain ⟨j, hj, rfl⟩ := List.getElem_of_mem hx
          have hjl : j < ss.length := by simp at hj; omega
          have := unhide HZ j hjl
          simpa [List.getD, List.getElem?_eq_getElem hjl] using this) 0
        simp only [bs_length, List.length_take] at this
        omega
      generalize olog 0 (bs (ss.take k)) = o at *
      generalize last 0 (bs (ss.take k)) = v at *
      go_wp2_with fail
      refine (link_any v s _ hv (by omega)).mono ?_
      rintro e w2 ⟨rfl, hb2⟩
      have hv2 := lnk_lt v s.data.toList
      have hown2 := own_below hown hb2 (Nat.le_refl _)
      have hbel2 := hbel.trans (hb2.mono hbel.size)
      have HBL := hide (byte_len s hss)
      generalize hv2e : lnk v s.data.toList = v2 at hv2 HL ⊢
      have HV := hide hv2e
      clear hv2e
      clear hown hbel hck hck0
      go_wp2_with (at_builtin; refine wpList_append_own _ rfl (.tmp 23) (.tmp 27) 45 rfl w1.heap.size 5 i0 (.int .u8 0) 1 1 Tryd.underlying45 hi hz0 hz1 hz2 rfl (by decide) _ _ _ rfl (hown2.alloc _) ⟨w2.heap.size, 0, none⟩ 1 1 [.int .u8 (s.size : Int)] rfl rfl ?c1 ?c2 ?c3 ?c4 ?c5 ?_)
      case c1 => exact cell_one_new _ _ _
      case c2 => intro u hu; simp at hu; subst hu; rfl
      case c3 => unfold maxLen; omega
      case c4 => omega
      case c5 => have := hbel2.size; simp; omega
      intro v3 w3 hown3 hgrow3 _
      have hsz2 : w1.heap.size ≤ w2.heap.size := hbel2.size
      have hbel3 : Below w1.heap.size w1 w3 := (hbel2.alloc hsz2 _).grown hgrow3 (by simp; omega) (own_row_ge hown2)
      have hsz3 : w1.heap.size ≤ w3.heap.size := hbel3.size
      clear hgrow3 hbel2 hown2 hb2
      go_wp2_with (at_builtin; refine Lib.wpList_append_own_string _ rfl (.tmp 29) (.tmp 30) 45 9 rfl w1.heap.size 5 i0 Tryd.underlying45 Tryd.underlying9 hi hz0 hz1 hz2 _ _ _ rfl hown3 s rfl ?d1 ?d2 hsz3 ?_)
      case d1 => unfold maxLen; omega
      case d2 => omega
      intro v4 w4 hown4 hgrow4 _
      have hbel4 : Below w1.heap.size w1 w4 := hbel3.grown hgrow4 hsz3 (own_row_ge hown3)
      have hsz4 : w1.heap.size ≤ w4.heap.size := hbel4.size
      clear hgrow4 hbel3 hown3
      go_wp2_with fail
      refine (two_any v2 _ hv2).mono ?_
      rintro e w5 ⟨rfl, hb5⟩
      have hown5 := own_below hown4 hb5 (Nat.le_refl _)
      have hbel5 := hbel4.trans (hb5.mono hsz4)
      have hsz5 : w1.heap.size ≤ w5.heap.size := hbel5.size
      clear hown4 hbel4 hb5
      have htz : (ByteArray.mk (two v2).toArray).size = 2 := rfl
      go_wp2_with (at_builtin; refine Lib.wpList_append_own_string _ rfl (.tmp 32) (.tmp 34) 45 9 rfl w1.heap.size 5 i0 Tryd.underlying45 Tryd.underlying9 hi hz0 hz1 hz2 _ _ _ rfl hown5 ⟨(two v2).toArray⟩ rfl ?e1 ?e2 hsz5 ?_)
      case e1 => unfold maxLen; omega
      case e2 => omega
      intro v6 w6 hown6 hgrow6 _
      have hbel6 : Below w1.heap.size w1 w6 := hbel5.grown hgrow6 hsz5 (own_row_ge hown5)
      clear hgrow6 hbel5 hown5
      go_wp2
      go_roundw
      case rel =>
        refine ⟨k + 1, by omega, by go_num, ?_, ?_, hbel6⟩
        · rw [unhide HB, ← unhide HS2, unhide HL]
        · rw [unhide HB, ← unhide HS2, unhide HO, bcells_append, frm_cells, unhide HV, ← unhide HBL]
          have e1 : (o ++ frm v s.data.toList).length = o.length + 1 + s.size + (ByteArray.mk (two v2).toArray).size := by
            have : s.data.toList.length = s.size := rfl
            rw [List.length_append, frm_length, htz]; omega
          rw [e1, htz]
          simpa [List.append_assoc] using hown6
      case measure => simp [intOf]; omega
    · have hkl : ss.take k = ss := List.take_of_length_le (by omega)
      rw [hkl] at hown
      generalize hoe : olog 0 (bs ss) = o at hown
      have HF := hide hoe
      clear hoe
      rcases hown with ⟨hl, ⟨rfl, h0⟩ | ⟨g, cap2, cur, rfl, hg1, hg2, hg3, hg4, hg5, hg6⟩⟩
      · have ho : o = [] := List.eq_nil_of_length_eq_zero h0
        subst ho
        have hcv := fun (w : World) => run_convert_bytes_nil (P := Tryd.prog) w 45 5 Tryd.underlying45 Tryd.underlying5 0 0 9 Tryd.underlying9
        go_wp2
        go_ret2
        exact ⟨by rw [unhide HF]; rfl, hbel⟩
      · have hcv := run_convert_bytes_back (P := Tryd.prog) wr 45 9 5 ⟨g, 0, none⟩ cap2 o Tryd.underlying45 Tryd.underlying5 Tryd.underlying9 (by
          intro j hj
          have hc1 : (cur.toList.take (o.length * 1))[j]? = (bcells o)[j]? := by rw [hg6]
          rw [List.getElem?_take_of_lt (by omega)] at hc1
          rw [Addr.add_lit]
          unfold World.cell?
          rw [hg2]
          simpa [bcells, List.getElem?_eq_getElem hj] using hc1)
        clear hl hg1 hg2 hg3 hg4 hg5 hg6
        go_wp2
        go_ret2
        exact ⟨by rw [unhide HF]; rfl, hbel⟩

theorem chk_zero (ss : List ByteArray) (h : chk ss = 0) : ss.length ≤ 100 ∧ ∀ i, i < ss.length → (ss.getD i ByteArray.empty).size ≤ 20 := by
  have h1 : ¬ 100 < ss.length := by
    intro h1
    rw [chk_many ss h1] at h
    exact absurd h (by decide)
  refine ⟨by omega, fun i hi => ?_⟩
  by_cases hl : 20 < (ss.getD i ByteArray.empty).size
  · rw [chk_long ss i h1 hi hl] at h
    exact absurd h (by decide)
  · omega
theorem chk_cases (ss : List ByteArray) : chk ss = 0 ∨ chk ss = 1 ∨ chk ss = 2 := by
  unfold chk
  split
  · exact .inr (.inr rfl)
  · split
    · exact .inr (.inl rfl)
    · exact .inl rfl

set_option maxHeartbeats 400000 in
theorem write_bad (v : Value) (ss : List ByteArray) (w : World) (h : Strs w v ss) (c : Nat) (hc : chk ss = c) (h0 : 0 < c) (h2 : c ≤ 2) :
    Calls Tryd.prog 55 #[v] w fun e w' => e = .returned (.tuple #[.string ⟨#[]⟩, .int .i64 c]) ∧ Below w.heap.size w w' := by
  have HC := hide hc
  have HS := hide h
  clear hc h
  have hn : ((c : Int) != 0) = true := by simp; omega
  go_enter Tryd.func55, Tryd.ntmps55
  go_wp2_with fail
  refine (check_any _ ss _ (unhide HS)).mono ?_
  rw [unhide HC]
  rintro e w1 ⟨rfl, rfl⟩
  go_wp2
  go_ret2
  exact ⟨rfl, Below.refl _ _⟩

set_option maxHeartbeats 400000 in
theorem write_empty (ao : Option Addr) (cap : Nat) (w : World) (hS : Strs w (.slice ao 0 cap) []) :
    Calls Tryd.prog 55 #[.slice ao 0 cap] w fun e w' => e = .returned (.tuple #[.string ⟨(olog 0 (bs [])).toArray⟩, .int .i64 0]) ∧ Below w.heap.size w w' := by
  have HS := hide hS
  clear hS
  have hcv := fun (w : World) => run_convert_bytes_nil (P := Tryd.prog) w 45 5 Tryd.underlying45 Tryd.underlying5 0 0 9 Tryd.underlying9
  go_enter Tryd.func55, Tryd.ntmps55
  go_wp2_with fail
  refine (check_any _ [] _ (unhide HS)).mono ?_
  rw [show chk [] = 0 from rfl]
  rintro e w1 ⟨rfl, rfl⟩
  go_wp2
  refine wp_loop_rounds 1 ?_
  rw [rounds_succ]
  go_wp2
  go_ret2
  exact ⟨rfl, Below.refl _ _⟩

/-- What WriteOld answers. -/
def wrText (ss : List ByteArray) : ByteArray := if chk ss = 0 then ⟨(olog 0 (bs ss)).toArray⟩ else ⟨#[]⟩
theorem write_any (v : Value) (ss : List ByteArray) (w : World) (h : Strs w v ss) :
    Calls Tryd.prog 55 #[v] w fun e w' => e = .returned (.tuple #[.string (wrText ss), .int .i64 (chk ss)]) ∧ Below w.heap.size w w' := by
  by_cases h0 : chk ss = 0
  · have hz := chk_zero ss h0
    unfold wrText
    rw [if_pos h0, h0]
    have hS := h
    obtain ⟨ao, cap, rfl, h1, h2, h3⟩ := h
    rcases h3 with rfl | ⟨b, off, rfl, hc⟩
    · exact write_empty ao cap w hS
    · exact write_ok b off cap ss w hz.1 hz.2 hc h0 hS
  · have hc := chk_cases ss
    unfold wrText
    rw [if_neg h0]
    exact write_bad v ss w h (chk ss) rfl (by omega) (by omega)
end Go.Proofs.YtanfolfopalbeaaDoor
