import Derived.Test.YtanfolfopalbeaaDoorFrame
namespace Go.Proofs.YtanfolfopalbeaaDoor
open Go.RowKit

theorem info_str : (Tryd.prog.info? 9).map (fun i => (i.zero, i.size, i.bytes)) = some (some (.string ⟨#[]⟩), 1, 16) := by kernel_rfl

/-- What rd says of a text that is not empty, and a number below 100. -/
theorem rd_step (f k v : Nat) (l : List UInt8) (hl : l ≠ []) (hk : k ≠ 100) (he : rfErr l v = 0) :
    rd (f + 1) k v l = (rfEnt l v :: (rd f (k + 1) (rfLnk l v) (l.drop (3 + (rfEnt l v).length))).1, (rd f (k + 1) (rfLnk l v) (l.drop (3 + (rfEnt l v).length))).2) := by
  simp only [rd]
  rw [if_neg hl, if_neg hk, if_pos he]
theorem rd_bad (f k v : Nat) (l : List UInt8) (hl : l ≠ []) (hk : k ≠ 100) (he : rfErr l v ≠ 0) : rd (f + 1) k v l = ([], rfErr l v, k) := by
  simp only [rd]
  rw [if_neg hl, if_neg hk, if_neg he]
theorem rd_full (f v : Nat) (l : List UInt8) (hl : l ≠ []) : rd (f + 1) 100 v l = ([], 3, 100) := by
  simp only [rd]
  rw [if_neg hl, if_pos trivial]
theorem rd_end (f k v : Nat) : rd f k v [] = ([], 0, 0) := by
  cases f with
  | zero => rfl
  | succ f => simp only [rd]; rw [if_pos trivial]
theorem rfErr_le (l : List UInt8) (v : Nat) : rfErr l v ≤ 4 := by
  unfold rfErr
  split
  · decide
  · split
    · decide
    · split <;> decide
theorem rfLnk_lt (l : List UInt8) (v : Nat) : rfLnk l v < 65536 := by
  unfold rfLnk
  split
  · exact lnk_lt _ _
  · decide
theorem rfEnt_le (l : List UInt8) (v : Nat) : (rfEnt l v).length ≤ 20 ∧ (rfErr l v = 0 → 3 + (rfEnt l v).length ≤ l.length) := by
  unfold rfEnt
  split
  · rename_i h
    match l, h with
    | [], h => simp [rfErr] at h
    | c :: r, h =>
      simp only [rfErr] at h
      split at h
      · simp at h
      · rename_i h1
        simp only [List.drop_succ_cons, List.drop_zero, List.headD_cons, List.length_take, List.length_cons]
        omega
  · rename_i h
    exact ⟨by simp, fun h' => absurd h' h⟩

set_option maxRecDepth 100000 in
set_option maxHeartbeats 400000 in
theorem read_long (s : ByteArray) (w : World) (hs : 2300 < s.size) (hm : s.size ≤ maxLen) :
    Calls Tryd.prog 56 #[.string s] w fun e w' => e = .returned (.tuple #[.slice none 0 0, .int .i64 1, .int .i64 0]) ∧ w' = w := by
  unfold maxLen at hm
  go_enter Tryd.func56, Tryd.ntmps56
  go_wp2
  go_ret3
  exact ⟨rfl, rfl⟩

/-- What is left to be read when some entries have been. -/
def RdAt (L : List UInt8) (acc : List (List UInt8)) (v : Nat) (t : List UInt8) : Prop :=
  ∃ f, t.length ≤ f ∧ rd L.length 0 0 L = (acc ++ (rd f acc.length v t).1, (rd f acc.length v t).2)

theorem own_shape {w : World} {base : Nat} {e : TypeId} {size : Nat} {v : Value} {n : Nat} {xs : List Value} (h : w.ownsRow base e size v n xs) : ∃ ao cap, v = .slice ao n cap := by
  rcases h.2 with ⟨rfl, rfl⟩ | ⟨g, cap, cur, rfl, _⟩
  · exact ⟨_, _, rfl⟩
  · exact ⟨_, _, rfl⟩
theorem RdAt.full {L t : List UInt8} {acc : List (List UInt8)} {v : Nat} (h : RdAt L acc v t) (ht : t ≠ []) (ha : acc.length = 100) : rd L.length 0 0 L = (acc, 3, 100) := by
  obtain ⟨f, hf, h⟩ := h
  cases f with
  | zero => exact absurd (List.eq_nil_of_length_eq_zero (by omega)) ht
  | succ f => rw [h, ha, rd_full f v t ht, List.append_nil]
theorem RdAt.bad {L t : List UInt8} {acc : List (List UInt8)} {v : Nat} (h : RdAt L acc v t) (ht : t ≠ []) (ha : acc.length ≠ 100) (he : rfErr t v ≠ 0) : rd L.length 0 0 L = (acc, rfErr t v, acc.length) := by
  obtain ⟨f, hf, h⟩ := h
  cases f with
  | zero => exact absurd (List.eq_nil_of_length_eq_zero (by omega)) ht
  | succ f => rw [h, rd_bad f _ v t ht ha he, List.append_nil]
theorem RdAt.next {L t : List UInt8} {acc : List (List UInt8)} {v : Nat} (h : RdAt L acc v t) (ht : t ≠ []) (ha : acc.length ≠ 100) (he : rfErr t v = 0) : RdAt L (acc ++ [rfEnt t v]) (rfLnk t v) (t.drop (3 + (rfEnt t v).length)) := by
  obtain ⟨f, hf, h⟩ := h
  cases f with
  | zero => exact absurd (List.eq_nil_of_length_eq_zero (by omega)) ht
  | succ f =>
    refine ⟨f, ?_, ?_⟩
    · rw [List.length_drop]; omega
    · rw [h, rd_step f _ v t ht ha he]
      simp
theorem RdAt.done {L : List UInt8} {acc : List (List UInt8)} {v : Nat} (h : RdAt L acc v []) : rd L.length 0 0 L = (acc, 0, 0) := by
  obtain ⟨f, hf, h⟩ := h
  rw [h, rd_end, List.append_nil]

set_option maxRecDepth 100000 in
set_option maxHeartbeats 800000 in
theorem read_short (s : ByteArray) (w : World) (hs : s.size ≤ 2300) :
    Calls Tryd.prog 56 #[.string s] w fun e w' => ∃ v, e = .returned (.tuple #[v, .int .i64 (rd s.size 0 0 s.data.toList).2.1, .int .i64 (rd s.size 0 0 s.data.toList).2.2]) ∧
      w'.ownsRow w.heap.size 9 1 v (rd s.size 0 0 s.data.toList).1.length (((rd s.size 0 0 s.data.toList).1.map mk).map Value.string) ∧ Below w.heap.size w w' := by
  obtain ⟨i0, hi, hz0, hz1, hz2⟩ := info_parts info_str
  go_enter Tryd.func56, Tryd.ntmps56
  go_wp2
  go_loopw [0, 5, 6] (fun t o l wr => ∃ (acc : List (List UInt8)) (v : Nat) (x : ByteArray), acc.length ≤ 100 ∧ v < 65536 ∧ x.size ≤ 2300 ∧ RdAt s.data.toList acc v x.data.toList ∧ t = .string x ∧ l = .int .u16 v ∧
      wr.ownsRow w.heap.size 9 1 o acc.length ((acc.map mk).map Value.string) ∧ Below w.heap.size w wr) (fun t _ _ _ => (match t with | .string x => x.size | _ => 0))
  case atStart => exact ⟨[], 0, s, by simp, by omega, hs, ⟨_, Nat.le_refl _, by simp⟩, rfl, rfl, World.ownsRow_nil _ _ _ _, Below.refl _ _⟩
  case round =>
    obtain ⟨acc, v, x, hacc, hv, hx, hR, rfl, rfl, hown, hbel⟩ := hrel
    have HR := hide hR
    clear hR
    obtain ⟨ao, cap, rfl⟩ := own_shape hown
    by_cases hx0 : 0 < x.size
    · have ht : x.data.toList ≠ [] := by
        intro h
        have : x.data.toList.length = x.size := rfl
        rw [h] at this
        simp at this
        omega
      by_cases ha : acc.length = 100
      · have HF := hide ((unhide HR).full ht ha)
        have hd : ((acc.length : Int) == 100) = true := by rw [beq_iff_eq]; omega
        clear ht
        go_wp2
        go_ret3
        have hF := unhide HF
        rw [show s.data.toList.length = s.size from rfl] at hF
        rw [hF]
        exact ⟨_, by rw [ha]; rfl, by rw [← ha]; exact hown, hbel⟩
      · have hd : ((acc.length : Int) == 100) = false := by rw [beq_eq_false_iff_ne]; omega
        have HT := hide ht
        clear ht
        go_wp2_with fail
        refine (frame_any x v _ hv (by omega)).mono ?_
        rintro e w1 ⟨rfl, hb1⟩
        have hown1 := own_below hown hb1 (Nat.le_refl _)
        have hbel1 := hbel.trans (hb1.mono hbel.size)
        have hsz1 := hbel1.size
        have hent := rfEnt_le x.data.toList v
        have hlv := rfLnk_lt x.data.toList v
        clear hown hbel hb1
        by_cases he : rfErr x.data.toList v = 0
        · have HN := hide ((unhide HR).next (unhide HT) ha he)
          rw [he]
          have hent2 := hent.2 he
          have hxl : x.data.toList.length = x.size := rfl
          rw [hxl] at hent2
          have hent1 := hent.1
          clear hent he
          generalize rfEnt x.data.toList v = en at *
          generalize rfLnk x.data.toList v = ln at *
          have hes : (mk en).size = en.length := rfl
          go_wp2_with (at_builtin; refine wpList_append_own _ rfl (.tmp 35) (.tmp 37) 34 rfl w.heap.size 9 i0 (.string ⟨#[]⟩) 1 16 Tryd.underlying34 hi hz0 hz1 hz2 rfl (by decide) _ _ _ rfl (hown1.alloc _) ⟨w1.heap.size, 0, none⟩ 1 1 [.string (mk en)] rfl rfl ?c1 ?c2 ?c3 ?c4 ?c5 ?_)
          case c1 => exact cell_one_new _ _ _
          case c2 => intro u hu; simp at hu; subst hu; rfl
          case c3 => unfold maxLen; omega
          case c4 => omega
          case c5 => simp; omega
          intro v3 w3 hown3 hgrow3 _
          have hbel3 : Below w.heap.size w w3 := (hbel1.alloc hsz1 _).grown hgrow3 (by simp; omega) (own_row_ge hown1)
          clear hgrow3 hbel1 hown1
          go_wp2
          go_roundw
          case rel =>
            refine ⟨acc ++ [en], ln, _, by simp; omega, hlv, ?_, ?_, rfl, rfl, by simpa using hown3, hbel3⟩
            · simp; omega
            · have := unhide HN
              rw [← extract_mk_drop] at this
              exact this
          case measure => simp; omega
        · have HB := hide ((unhide HR).bad (unhide HT) ha he)
          have hle := rfErr_le x.data.toList v
          generalize rfErr x.data.toList v = er at *
          generalize rfEnt x.data.toList v = en at *
          generalize rfLnk x.data.toList v = ln at *
          have hne : ((er : Int) != 0) = true := by simp; omega
          clear hent
          go_wp2
          go_ret3
          have hF := unhide HB
          rw [show s.data.toList.length = s.size from rfl] at hF
          rw [hF]
          exact ⟨_, rfl, hown1, hbel1⟩
    · have hx1 : x.data.toList = [] := List.eq_nil_of_length_eq_zero (by have : x.data.toList.length = x.size := rfl; omega)
      have hR := unhide HR
      rw [hx1] at hR
      have HD := hide hR.done
      clear hR hx1
      go_wp2
      go_ret3
      have hF := unhide HD
      rw [show s.data.toList.length = s.size from rfl] at hF
      rw [hF]
      exact ⟨_, rfl, hown, hbel⟩

theorem read_any (s : ByteArray) (w : World) (hm : s.size ≤ maxLen) :
    Calls Tryd.prog 56 #[.string s] w fun e w' => ∃ v, e = .returned (.tuple #[v, .int .i64 (rdOld s.data.toList).2.1, .int .i64 (rdOld s.data.toList).2.2]) ∧
      w'.ownsRow w.heap.size 9 1 v (rdOld s.data.toList).1.length (((rdOld s.data.toList).1.map mk).map Value.string) ∧ Below w.heap.size w w' := by
  unfold rdOld
  by_cases h : 2300 < s.data.toList.length
  · rw [if_pos h]
    refine (read_long s w h hm).mono ?_
    rintro e w' ⟨rfl, rfl⟩
    exact ⟨_, rfl, World.ownsRow_nil _ _ _ _, Below.refl _ _⟩
  · rw [if_neg h]
    exact read_short s w (by have : s.data.toList.length = s.size := rfl; omega)
end Go.Proofs.YtanfolfopalbeaaDoor
