import Derived.Test.YtanfolfopalbeaaDoorRefNum
import Derived.BigRegion
namespace Go.Proofs.YtanfolfopalbeaaDoor
open Go.RowKit

/-- Block g holds these numbers. -/
def IBlk (w : World) (g : Nat) (l : List Nat) : Prop := w.heap[g]? = some (.cells (icells l).toArray 3 (0, 0))
theorem IBlk.cell {w : World} {g : Nat} {l : List Nat} (h : IBlk w g l) (j : Nat) (hj : j < l.length) : w.cell? ⟨g, j, none⟩ = some (.int .i64 ((l.getD j 0 : Nat) : Int)) := by
  rw [cell_of_row w g j _ _ _ h, List.getElem?_toArray]
  exact icells_at l j hj
theorem IBlk.free {w : World} {g : Nat} {l : List Nat} (h : IBlk w g l) (j : Nat) : w.frozen? ⟨g, j, none⟩ = false := frozen_of_row w g j _ _ h
theorem IBlk.set {w : World} {g : Nat} {l : List Nat} (h : IBlk w g l) (j x : Nat) : IBlk (w.setCell ⟨g, j, none⟩ (.int .i64 (x : Int))) g (l.set j x) := by
  unfold IBlk
  rw [heap_setCell_same w g j _ _ _ h]
  congr 2
  apply Array.ext'
  simp [icells, List.map_set]
theorem IBlk.lt {w : World} {g : Nat} {l : List Nat} (h : IBlk w g l) : g < w.heap.size := lt_of_block h
theorem IBlk.below {w w' : World} {B g : Nat} {l : List Nat} (h : IBlk w g l) (hb : Below B w w') (hB : w.heap.size ≤ B) : IBlk w' g l := by
  unfold IBlk
  rw [hb.block g (Nat.lt_of_lt_of_le h.lt hB)]
  exact h
theorem IBlk.ints {w : World} {g n : Nat} {l : List Nat} (h : IBlk w g l) (hn : l.length = n) (hm : n ≤ maxLen) : Ints w (.slice (some ⟨g, 0, none⟩) n n) l := by
  subst hn
  exact ⟨g, l.length, rfl, Nat.le_refl _, hm, h.lt, h.cell⟩
theorem info_int : (Tryd.prog.info? 3).map (fun i => (i.zero, i.size, i.bytes)) = some (some (.int .i64 0), 1, 8) := by kernel_rfl
theorem getD_digits (l : List Nat) (h : ∀ x ∈ l, x < 65536) (j : Nat) : l.getD j 0 < 65536 := by
  rw [List.getD]
  cases hc : l[j]? with
  | none => simp
  | some x => simpa using h x (List.mem_of_getElem? hc)

theorem own_full {w : World} {base : Nat} {e : TypeId} {g n : Nat} {xs : List Value} (h : w.ownsRow base e 1 (.slice (some ⟨g, 0, none⟩) n n) n xs) : w.heap[g]? = some (.cells xs.toArray e (0, 0)) := by
  rcases h.2 with ⟨h1, _⟩ | ⟨g1, cap, cur, hv, _, hg, _, _, h5, h6⟩
  · cases h1
  · injection hv with e1 _ e3
    injection e1 with e1
    injection e1 with e1
    subst e1 e3
    rw [List.take_of_length_le (by rw [Array.length_toList]; omega)] at h6
    rw [hg, ← h6]
theorem made_zeros (n : Nat) : (madeCells #[Value.int IntKind.i64 0] n).toList = icells (List.replicate n 0) := by
  unfold madeCells icells
  apply List.ext_getElem?
  intro j
  by_cases hj : j < n
  · simp [hj]
    rw [Nat.mod_one]
    rfl
  · simp [hj]
/-- One step of the product: what is added at digit i + k. -/
theorem prod_step (A B X y z i k : Nat) (h : X = A + 65536 ^ i * y * B) : X + 65536 ^ (i + k) * (y * z) = A + 65536 ^ i * y * (B + 65536 ^ k * z) := by
  rw [h, Nat.mul_add, Nat.pow_add, Nat.add_assoc]
  congr 1
  congr 1
  simp only [Nat.mul_assoc, Nat.mul_comm, Nat.mul_left_comm]
theorem prod_le (A P y B' Bv Va T : Nat) (h1 : B' ≤ Bv) (h2 : T = A + P * y) (h3 : T ≤ Va) : A * Bv + P * y * B' ≤ Va * Bv := by
  have h4 : P * y * B' ≤ P * y * Bv := Nat.mul_le_mul_left _ h1
  have h5 : T * Bv ≤ Va * Bv := Nat.mul_le_mul_right _ h3
  rw [h2, Nat.add_mul] at h5
  omega
/-- Two digits behind a carry. -/
def car (o : List Nat) (c : Nat) : List Nat := (o.set (c + 1) (o.getD (c + 1) 0 + o.getD c 0 / 65536)).set c (o.getD c 0 % 65536)
theorem getD_set_ne (o : List Nat) (i j x : Nat) (h : j ≠ i) : (o.set i x).getD j 0 = o.getD j 0 := by
  simp only [List.getD]
  rw [List.getElem?_set_ne (by omega)]
theorem getD_set_eq (o : List Nat) (i x : Nat) (h : i < o.length) : (o.set i x).getD i 0 = x := by
  simp only [List.getD]
  rw [List.getElem?_set_self h]
  rfl
theorem car_val (o : List Nat) (c : Nat) (h : c + 1 < o.length) : val (car o c) = val o := by
  have h1 := val_set o (c + 1) (o.getD (c + 1) 0 + o.getD c 0 / 65536) h
  have h2 := val_set (o.set (c + 1) (o.getD (c + 1) 0 + o.getD c 0 / 65536)) c (o.getD c 0 % 65536) (by rw [List.length_set]; omega)
  rw [getD_set_ne _ _ _ _ (by omega)] at h2
  unfold car
  generalize val ((o.set (c + 1) (o.getD (c + 1) 0 + o.getD c 0 / 65536)).set c (o.getD c 0 % 65536)) = v2 at *
  generalize val (o.set (c + 1) (o.getD (c + 1) 0 + o.getD c 0 / 65536)) = v1 at *
  generalize o.getD c 0 = x at *
  generalize o.getD (c + 1) 0 = t at *
  have hx : x = 65536 * (x / 65536) + x % 65536 := by omega
  rw [Nat.mul_add] at h1
  rw [Nat.pow_succ] at h1
  generalize x / 65536 = q at *
  generalize x % 65536 = r at *
  generalize 65536 ^ c = P at *
  have h3 : P * x = P * 65536 * q + P * r := by rw [hx, Nat.mul_add, Nat.mul_assoc]
  omega
theorem car_length (o : List Nat) (c : Nat) : (car o c).length = o.length := by simp [car]
theorem car_digit (o : List Nat) (c : Nat) (hc : c + 1 < o.length) (h : ∀ j, j ≠ c → o.getD j 0 < 65536) (j : Nat) (hj : j ≠ c + 1) : (car o c).getD j 0 < 65536 := by
  unfold car
  by_cases e : j = c
  · rw [e, getD_set_eq _ _ _ (by rw [List.length_set]; omega)]; omega
  · rw [getD_set_ne _ _ _ _ e, getD_set_ne _ _ _ _ hj]; exact h j e
theorem car_next (o : List Nat) (c : Nat) (hc : c + 1 < o.length) (h : ∀ j, j ≠ c → o.getD j 0 < 65536) (h2 : o.getD c 0 < 8589934592) : (car o c).getD (c + 1) 0 < 8589934592 := by
  unfold car
  rw [getD_set_ne _ _ _ _ (by omega), getD_set_eq _ _ _ hc]
  have := h (c + 1) (by omega)
  omega
theorem car_room (o : List Nat) (c n V : Nat) (hn : o.length = n) (hc : c < n) (hx : 65536 ≤ o.getD c 0) (hv : val o = V) (hV : V < 65536 ^ n) : c + 1 < n := by
  by_cases h : c + 1 < n
  · exact h
  · exfalso
    have h1 := val_digit_le o c (by omega)
    have h2 : 65536 ^ c * 65536 ≤ 65536 ^ c * o.getD c 0 := Nat.mul_le_mul_left _ hx
    rw [← Nat.pow_succ, show c.succ = n by omega] at h2
    omega
theorem digits_of (o : List Nat) (h : ∀ j, o.getD j 0 < 65536) : ∀ x ∈ o, x < 65536 := by
  intro x hx
  obtain ⟨j, hj⟩ := List.getElem?_of_mem hx
  have := h j
  rw [List.getD, hj] at this
  exact this

set_option maxRecDepth 100000 in
set_option maxHeartbeats 1600000 in
theorem times_any (v u : Value) (a b : List Nat) (w : World) (hv : Ints w v a) (hu : Ints w u b) (ha : ∀ x ∈ a, x < 65536) (hb : ∀ x ∈ b, x < 65536) (hal : a.length ≤ 100) (hbl : b.length ≤ 100) :
    Calls Tryd.prog 86 #[v, u] w fun e w' => ∃ x c, e = .returned x ∧ Ints w' x c ∧ c.length = a.length + b.length ∧ (∀ d ∈ c, d < 65536) ∧ val c = val a * val b ∧ Below w.heap.size w w' := by
  obtain ⟨i0, hi, hz0, hz1, hz2⟩ := info_parts info_int
  obtain ⟨g, cap, rfl, h1, h2, h3, h4⟩ := hv
  obtain ⟨g', cap', rfl, h1', h2', h3', h4'⟩ := hu
  have H4 := hide h4
  have H4' := hide h4'
  have HA := hide ha
  have HB := hide hb
  clear h4 h4' ha hb h1 h2 h1' h2'
  have hVL := val_lt a (unhide HA)
  have hVB := val_lt b (unhide HB)
  have HLIM := hide (show val a * val b < 65536 ^ (a.length + b.length) by rw [Nat.pow_add]; exact Nat.mul_lt_mul'' hVL hVB)
  clear hVL hVB
  have HTA := hide (val_take_succ a)
  have HTB := hide (val_take_succ b)
  have HTL := hide (val_take_le a)
  have HTLB := hide (val_take_le b)
  have HZA := hide (show val (a.take 0) = 0 from rfl)
  have HZB := hide (show val (b.take 0) = 0 from rfl)
  have HEA := hide (show val (a.take a.length) = val a by rw [List.take_length])
  have HEB := hide (show val (b.take b.length) = val b by rw [List.take_length])
  have HDA := hide (getD_digits a (unhide HA))
  have HDB := hide (getD_digits b (unhide HB))
  clear HA HB
  generalize hla : a.length = la at *
  generalize hlb : b.length = lb at *
  clear hla hlb
  go_enter Tryd.func86, Tryd.ntmps86
  go_wp2_with (at_make; go_must (refine wpList_make_full _ rfl _ _ 78 rfl w.heap.size 3 i0 (.int .i64 0) 1 Tryd.underlying78 hi hz0 hz1 _ _ _ _ (la + lb) rfl rfl (by omega) (by omega) (by rw [hz2]; omega) (by unfold maxLen; omega) (Nat.le_refl _) ?_))
  intro w1 hown1 hgrow1
  have hbel1 : Below w.heap.size w w1 := (Below.refl _ _).grown hgrow1 (Nat.le_refl _) (fun k h => by cases h)
  have hblk1 : IBlk w1 w.heap.size (List.replicate (la + lb) 0) := by
    have := own_full hown1
    rw [made_zeros] at this
    exact this
  clear hown1 hgrow1
  go_wp2
  go_loopw [6] (fun t wr => ∃ (i : Nat) (o : List Nat), i ≤ la ∧ t = .int .i64 i ∧ o.length = la + lb ∧ Hid (∀ x ∈ o, x < 65536) ∧ Hid (val o = val (a.take i) * val b) ∧ IBlk wr w.heap.size o ∧ Below w.heap.size w wr) (fun t _ => la - (intOf t).toNat)
  case atStart =>
    refine ⟨0, List.replicate (la + lb) 0, Nat.zero_le _, rfl, List.length_replicate, hide ?_, hide (by rw [val_zeros, unhide HZA, Nat.zero_mul]), hblk1, hbel1⟩
    intro x hx
    rw [(List.mem_replicate.1 hx).2]
    decide
  case round =>
    obtain ⟨i, o, hil, rfl, hol, HD, HV, hblk, hbel⟩ := hrel
    by_cases hlt : i < la
    · have hd : decide ((i : Int) < (la : Int)) = true := by simp; omega
      have HAI := hide (unhide H4 i hlt)
      have hy := unhide HDA i
      have HST := hide (unhide HTA i hlt)
      have HST2 := hide (unhide HTL (i + 1))
      generalize a.getD i 0 = y at HAI hy HST
      go_wp2
      go_loopw [7] (fun t wr => ∃ (k : Nat) (o : List Nat), k ≤ lb ∧ t = .int .i64 k ∧ o.length = la + lb ∧ Hid (∀ x ∈ o, x < 65536) ∧ Hid (val o = val (a.take i) * val b + 65536 ^ i * y * val (b.take k)) ∧ IBlk wr w.heap.size o ∧ Below w.heap.size w wr) (fun t _ => lb - (intOf t).toNat)
      case atStart => exact ⟨0, o, Nat.zero_le _, rfl, hol, HD, hide (by rw [unhide HZB, Nat.mul_zero, Nat.add_zero]; exact unhide HV), hblk, hbel⟩
      case round =>
        clear hblk hbel HV HD hol o
        obtain ⟨k, o, hkl, rfl, hol, HD, HV, hblk, hbel⟩ := hrel
        by_cases hlt2 : k < lb
        · have hd2 : decide ((k : Int) < (lb : Int)) = true := by simp; omega
          have ca := unhide HAI
          have cb := unhide H4' k hlt2
          rw [← World.cell?_of_block (hbel.block g h3)] at ca
          rw [← World.cell?_of_block (hbel.block g' h3')] at cb
          have hz := unhide HDB k
          have HSB := hide (unhide HTB k hlt2)
          generalize b.getD k 0 = z at cb hz HSB
          have co := hblk.cell (i + k) (by omega)
          have fo := hblk.free (i + k)
          have hx := getD_digits o (unhide HD) (i + k)
          have HVS := hide (val_set o (i + k) (o.getD (i + k) 0 + y * z) (by omega))
          generalize hox : o.getD (i + k) 0 = x at co hx HVS
          have hyz : y * z < 4294967296 := by
            have : y * z ≤ 65535 * 65535 := Nat.mul_le_mul (by omega) (by omega)
            omega
          have e0 : (y : Int) * (z : Int) = ((y * z : Nat) : Int) := by simp
          generalize hmm : y * z = m at *
          have HM := hide hmm
          clear hmm
          have e1 : (i : Int) + (k : Int) = ((i + k : Nat) : Int) := by simp
          have hik : i + k < la + lb := by omega
          generalize hc0 : i + k = c0 at *
          have HC0 := hide hc0
          clear hc0
          have j1 : (c0 : Int) < ((la + lb : Nat) : Int) := by omega
          have j2 : (i : Int) < (la : Int) := by omega
          have j3 : (k : Int) < (lb : Int) := by omega
          have wv1 : IntKind.i64.wrap (c0 : Int) = (c0 : Int) := i64w _ (by omega)
          have wv2 : IntKind.i64.wrap (m : Int) = (m : Int) := i64w _ (by omega)
          have wv3 : IntKind.i64.wrap ((x : Int) + (m : Int)) = (x : Int) + (m : Int) := i64w _ (by omega)
          have HBEL := hide hbel
          have HBLK := hide hblk
          have HOX := hide hox
          clear hbel hblk hox
          go_wp2
          go_region
          rw [show (x : Int) + (m : Int) = ((x + m : Nat) : Int) by simp]
          have hblk2 : IBlk (wr.setCell ⟨w.heap.size, c0, none⟩ (.int .i64 ((x + m : Nat) : Int))).drew w.heap.size (o.set c0 (x + m)) := (unhide HBLK).set c0 (x + m)
          have hbel2 : Below w.heap.size w (wr.setCell ⟨w.heap.size, c0, none⟩ (.int .i64 ((x + m : Nat) : Int))).drew := ((unhide HBEL).setCell (by exact Nat.le_refl _) _).drew
          have HV2 := hide (show val (o.set c0 (x + m)) = val (a.take i) * val b + 65536 ^ i * y * val (b.take (k + 1)) by
            have h1 := unhide HVS
            have h2 := prod_step _ _ _ y z i k (unhide HV)
            rw [unhide HC0, unhide HM] at h2
            rw [unhide HSB, ← h2]
            rw [Nat.mul_add] at h1
            omega)
          have HVL := hide (show val (o.set c0 (x + m)) < 65536 ^ (la + lb) by
            rw [unhide HV2]
            exact Nat.lt_of_le_of_lt (prod_le _ _ _ _ _ _ _ (unhide HTLB (k + 1)) (unhide HST) (unhide HST2)) (unhide HLIM))
          have HOTH := hide (show ∀ j, j ≠ c0 → (o.set c0 (x + m)).getD j 0 < 65536 from fun j hj => by rw [getD_set_ne _ _ _ _ hj]; exact getD_digits o (unhide HD) j)
          have HTHE := hide (show (o.set c0 (x + m)).getD c0 0 < 8589934592 by rw [getD_set_eq _ _ _ (by omega)]; omega)
          have hol2 : (o.set c0 (x + m)).length = la + lb := by rw [List.length_set]; exact hol
          generalize (wr.setCell ⟨w.heap.size, c0, none⟩ (.int .i64 ((x + m : Nat) : Int))).drew = w2 at hblk2 hbel2 ⊢
          generalize o.set c0 (x + m) = o2 at hblk2 HV2 HVL HOTH HTHE hol2
          generalize hVe : val o2 = V at HV2 HVL
          have HVE := hide hVe
          clear hVe HOX HBEL HBLK HVS ca cb co fo hx wv3 wv2 HD HV hol
          go_wp2
          go_loopw [8] (fun t wr => ∃ (c : Nat) (o : List Nat), c < la + lb ∧ t = .int .i64 c ∧ o.length = la + lb ∧ Hid (∀ j, j ≠ c → o.getD j 0 < 65536) ∧ Hid (o.getD c 0 < 8589934592) ∧ Hid (val o = V) ∧ IBlk wr w.heap.size o ∧ Below w.heap.size w wr) (fun t _ => la + lb - (intOf t).toNat)
          case atStart => exact ⟨c0, o2, hik, rfl, hol2, HOTH, HTHE, HVE, hblk2, hbel2⟩
          case round =>
            clear hblk2 hbel2 HOTH HTHE HVE hol2 o2
            obtain ⟨c, o, hc, rfl, hol, HO, HT, HV, hblk, hbel⟩ := hrel
            have cx := hblk.cell c (by omega)
            have j4 : (c : Int) < ((la + lb : Nat) : Int) := by omega
            by_cases hx : 65536 ≤ o.getD c 0
            · have hc1 := car_room o c _ V hol hc hx (unhide HV) (unhide HVL)
              have ct := hblk.cell (c + 1) (by omega)
              have fx := hblk.free c
              have ft := hblk.free (c + 1)
              have hbt := unhide HO (c + 1) (by omega)
              have hbx := unhide HT
              have HBLK := hide hblk
              have HBEL := hide hbel
              have HCAR := hide (show car o c = (o.set (c + 1) (o.getD (c + 1) 0 + o.getD c 0 / 65536)).set c (o.getD c 0 % 65536) from rfl)
              generalize hxe : o.getD c 0 = x at cx hx hbx HCAR
              have HXE := hide hxe
              clear hxe
              generalize o.getD (c + 1) 0 = t at ct hbt HCAR
              have hd3 : decide ((65536 : Int) ≤ (x : Int)) = true := by simp; omega
              have e5 : (c : Int) + 1 = ((c + 1 : Nat) : Int) := by simp
              generalize hce : c + 1 = c1 at *
              have HCE := hide hce
              clear hce
              have j5 : (c1 : Int) < ((la + lb : Nat) : Int) := by omega
              clear hblk hbel
              go_wp2
              go_region
              rw [show (t : Int) + (x : Int) / 65536 = ((t + x / 65536 : Nat) : Int) by omega]
              have hblk3 : IBlk (wr.setCell ⟨w.heap.size, c1, none⟩ (.int .i64 ((t + x / 65536 : Nat) : Int))).drew w.heap.size (o.set c1 (t + x / 65536)) := (unhide HBLK).set c1 _
              have hbel3 : Below w.heap.size w (wr.setCell ⟨w.heap.size, c1, none⟩ (.int .i64 ((t + x / 65536 : Nat) : Int))).drew := ((unhide HBEL).setCell (by exact Nat.le_refl _) _).drew
              generalize (wr.setCell ⟨w.heap.size, c1, none⟩ (.int .i64 ((t + x / 65536 : Nat) : Int))).drew = w3 at hblk3 hbel3 ⊢
              have cx3 := hblk3.cell c (by rw [List.length_set]; omega)
              have hcc : c ≠ c1 := by have := unhide HCE; omega
              rw [getD_set_ne _ _ _ _ hcc, unhide HXE] at cx3
              have fx3 := hblk3.free c
              have HB3 := hide hblk3
              have HL3 := hide hbel3
              clear hblk3 hbel3 cx ct fx ft hcc
              go_wp2
              refine ⟨⟨c1, car o c, by omega, rfl, by rw [car_length]; exact hol, ?_, ?_, ?_, ?_, (unhide HL3).setCell (by exact Nat.le_refl _) _⟩, by simp [intOf]; have := unhide HCE; omega⟩
              · refine hide fun j hj => car_digit o c (by rw [unhide HCE]; omega) (unhide HO) j (by rw [unhide HCE]; exact hj)
              · have := car_next o c (by rw [unhide HCE]; omega) (unhide HO) (unhide HT)
                rw [unhide HCE] at this
                exact hide this
              · exact hide ((car_val o c (by rw [unhide HCE]; omega)).trans (unhide HV))
              · rw [unhide HCAR, show (x : Int) % 65536 = ((x % 65536 : Nat) : Int) by omega]
                exact (unhide HB3).set c _
            · have HD2 := hide (digits_of o fun j => by
                by_cases e : j = c
                · rw [e]; omega
                · exact unhide HO j e)
              generalize o.getD c 0 = x at cx hx
              have hd3 : decide ((65536 : Int) ≤ (x : Int)) = false := by simp; omega
              have HB3 := hide hblk
              have HL3 := hide hbel
              clear hblk hbel
              go_wp2
              exact ⟨⟨k + 1, o, by omega, by go_num, hol, HD2, hide ((unhide HV).trans (unhide HV2)), unhide HB3, unhide HL3⟩, by simp [intOf]; omega⟩
        · have hd2 : decide ((k : Int) < (lb : Int)) = false := by simp; omega
          have hkb : k = lb := by omega
          have HV3 := hide (show val o = val (a.take (i + 1)) * val b by
            rw [unhide HV, hkb, unhide HEB, unhide HST, Nat.add_mul])
          clear hkb
          go_wp2
          exact ⟨⟨i + 1, o, by omega, by go_num, hol, HD, HV3, hblk, hbel⟩, by simp [intOf]; omega⟩
    · have hd : decide ((i : Int) < (la : Int)) = false := by simp; omega
      have hia : i = la := by omega
      have HV3 := hide (show val o = val a * val b by rw [unhide HV, hia, unhide HEA])
      clear hia
      go_wp2
      go_ret
      exact ⟨_, o, rfl, hblk.ints hol (by unfold maxLen; omega), hol, unhide HD, unhide HV3, hbel⟩
end Go.Proofs.YtanfolfopalbeaaDoor
