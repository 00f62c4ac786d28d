/- The reference's ReadOld: the contract. -/
import Derived.Test.YtanfolfopalbeaaRef
namespace Go.Proofs.Ytanfolfopalbeaa
open Go.RowKit

set_option maxRecDepth 100000 in
set_option maxHeartbeats 400000 in
theorem rRead_long (s : ByteArray) (w : World) (hs : 2300 < s.size) (hm : s.size ≤ maxLen) :
    Calls Try.prog 18 #[.string s] w fun e w' => e = .returned (.tuple #[.slice none 0 0, .int .i64 1, .int .i64 0]) ∧ w' = w := by
  unfold maxLen at hm
  go_enter Try.func18, Try.ntmps18
  go_wp2
  go_ret3
  exact ⟨rfl, rfl⟩

theorem frame_eq (x : ByteArray) (v n : Nat) (h0 : 0 < x.size) (hn : (x[0]'h0).toNat = n) (hl : n ≤ 20) (hc : n + 3 ≤ x.size) :
    ((x.extract 0 (n + 3)).data.toList = frm v (x.extract 1 (n + 1)).data.toList ↔ rfErr x.data.toList v = 0) ∧ (rfErr x.data.toList v = 0 ∨ rfErr x.data.toList v = 4) ∧ (x.extract 1 (n + 1)).size = n ∧
    (rfErr x.data.toList v = 0 → rfEnt x.data.toList v = (x.extract 1 (n + 1)).data.toList ∧ rfLnk x.data.toList v = lnk v (x.extract 1 (n + 1)).data.toList) := by
  obtain ⟨r, e, hr⟩ := ba_getElem x h0
  obtain ⟨g1, g2, g3⟩ := rf_facts x v (by omega) n hn hl (by omega)
  have e2 : (x.extract 1 (n + 1)).data.toList = r.take n := by
    rw [extract_data, e, show n + 1 - 1 = n by omega]
    rfl
  have e2' : (x.extract 1 (1 + n)).data.toList = r.take n := by rw [Nat.add_comm 1 n]; exact e2
  have e3 : (x.extract (1 + n) (3 + n)).data.toList = (r.drop n).take 2 := by
    rw [extract_data, e, show 1 + n = n + 1 by omega, show 3 + n - (n + 1) = 2 by omega, List.drop_succ_cons]
  have e4 : (x.extract 0 (n + 3)).data.toList = x[0] :: (r.take n ++ (r.drop n).take 2) := by
    rw [extract_data, e, List.drop_zero, Nat.sub_zero, List.take_succ_cons, show n + 2 = n + 2 from rfl, List.take_add]
  have hrl : (r.take n).length = n := by rw [List.length_take]; omega
  have e5 : x[0] = UInt8.ofNat n := by
    rw [← hn]
    exact (UInt8.ofNat_toNat).symm
  rw [e3, e2'] at g1
  rw [e2'] at g2
  refine ⟨?_, ?_, ?_, by rw [e2]; exact g2⟩
  · rw [e4, e2, frm, hrl, e5, g1]
    constructor
    · intro h
      have h1 := (List.cons.inj h).2
      rw [if_pos (List.append_cancel_left h1)]
    · intro h
      by_cases hq : (r.drop n).take 2 = two (lnk v (r.take n))
      · rw [hq]
      · rw [if_neg hq] at h
        exact absurd h (by decide)
  · rw [g1]
    by_cases hq : (r.drop n).take 2 = two (lnk v (r.take n))
    · rw [if_pos hq]; exact .inl rfl
    · rw [if_neg hq]; exact .inr rfl
  · have : (x.extract 1 (n + 1)).data.toList.length = (x.extract 1 (n + 1)).size := rfl
    rw [e2, hrl] at this
    exact this.symm
theorem rfErr_three (x : ByteArray) (v : Nat) (h0 : 0 < x.size) (hf : 20 < (x[0]'h0).toNat ∨ x.size < (x[0]'h0).toNat + 3) : rfErr x.data.toList v = 3 := by
  obtain ⟨r, e, hr⟩ := ba_getElem x h0
  rw [e]
  simp only [rfErr]
  rw [if_pos (by rcases hf with hf | hf; exact .inl hf; exact .inr (by omega))]
/-- The last link of the entries read so far is carried along. -/
def RdL (L : List UInt8) (acc : List (List UInt8)) (t : List UInt8) : Prop := RdAt L acc (last 0 acc) t ∧ ∀ e ∈ acc, e.length ≤ 20

set_option maxRecDepth 100000 in
set_option maxHeartbeats 1600000 in
theorem rRead_short (s : ByteArray) (w : World) (hs : s.size ≤ 2300) :
    Calls Try.prog 18 #[.string s] w fun e w' => ∃ v, e = .returned (.tuple #[v, .int .i64 (rd s.size 0 0 s.data.toList).2.1, .int .i64 (rd s.size 0 0 s.data.toList).2.2]) ∧
      w'.ownsRow w.heap.size 9 1 v (rd s.size 0 0 s.data.toList).1.length (((rd s.size 0 0 s.data.toList).1.map mk).map Value.string) ∧ Below w.heap.size w w' := by
  obtain ⟨i0, hi, hz0, hz1, hz2⟩ := info_parts info_str
  go_enter Try.func18, Try.ntmps18
  go_wp2
  go_loopw [0, 5] (fun t o wr => ∃ (acc : List (List UInt8)) (x : ByteArray), acc.length ≤ 100 ∧ x.size ≤ 2300 ∧ RdL s.data.toList acc x.data.toList ∧ t = .string x ∧
      wr.ownsRow w.heap.size 9 1 o acc.length ((acc.map mk).map Value.string) ∧ Below w.heap.size w wr) (fun t _ _ => (match t with | .string x => x.size | _ => 0))
  case atStart => exact ⟨[], s, by simp, hs, ⟨⟨_, Nat.le_refl _, by simp [last]⟩, fun e he => by cases he⟩, rfl, World.ownsRow_nil _ _ _ _, Below.refl _ _⟩
  case round =>
    obtain ⟨acc, x, hacc, hx, hR, rfl, hown, hbel⟩ := hrel
    obtain ⟨hR, hA⟩ := hR
    have HR := hide hR
    have HA := hide hA
    have hv := last_lt acc 0 (by omega)
    clear hR hA
    obtain ⟨ao, cap, rfl⟩ := own_shape hown
    by_cases hx0 : 0 < x.size
    · have ht : x.data.toList ≠ [] := by
        intro h
        have : x.data.toList.length = x.size := rfl
        rw [h] at this
        simp at this
        omega
      have HT := hide ht
      have hne : x.toList.isEmpty = false := by rw [ByteArray.toList_eq]; simpa using ht
      have hbx := (x[0]'hx0).toNat_lt
      clear ht
      by_cases ha : acc.length = 100
      · have HF := hide ((unhide HR).full (unhide HT) ha)
        have hd : ((acc.length : Int) == 100) = true := by rw [beq_iff_eq]; omega
        go_wp2
        go_ret3
        have hF := unhide HF
        rw [show s.data.toList.length = s.size from rfl] at hF
        rw [hF]
        exact ⟨_, by rw [ha]; rfl, by rw [← ha]; exact hown, hbel⟩
      · have hd : ((acc.length : Int) == 100) = false := by rw [beq_eq_false_iff_ne]; omega
        by_cases hbad : 20 < (x[0]'hx0).toNat ∨ x.size < (x[0]'hx0).toNat + 3
        · have he3 := rfErr_three x (last 0 acc) hx0 hbad
          have hbd := (unhide HR).bad (unhide HT) ha (by rw [he3]; decide)
          rw [he3] at hbd
          have HF := hide hbd
          clear hbd he3
          generalize hne0 : (x[0]'hx0).toNat = n at hbad hbx
          by_cases hl : 20 < n
          · have hd2 : decide ((20 : Int) < (n : Int)) = true := by simp; omega
            clear hbad
            go_wp2
            go_ret3
            have hF := unhide HF
            rw [show s.data.toList.length = s.size from rfl] at hF
            rw [hF]
            exact ⟨_, rfl, hown, hbel⟩
          · have hd2 : decide ((20 : Int) < (n : Int)) = false := by simp; omega
            have hd3 : decide ((x.size : Int) < (n : Int) + 3) = true := by simp; omega
            clear hbad
            go_wp2
            go_ret3
            have hF := unhide HF
            rw [show s.data.toList.length = s.size from rfl] at hF
            rw [hF]
            exact ⟨_, rfl, hown, hbel⟩
        · generalize hne0 : (x[0]'hx0).toNat = n at hbad hbx
          obtain ⟨q1, q2, q3, q4⟩ := frame_eq x (last 0 acc) n hx0 hne0 (by omega) (by omega)
          have HQ1 := hide q1
          have HQ4 := hide q4
          have hd2 : decide ((20 : Int) < (n : Int)) = false := by simp; omega
          have hd3 : decide ((x.size : Int) < (n : Int) + 3) = false := by simp; omega
          have hn20 : n ≤ 20 := by omega
          have hn3 : n + 3 ≤ x.size := by omega
          have HQ2 := hide q2
          have HAC := hide (strs_of_own hown)
          clear q1 q2 q4 hbad
          go_wp2_with fail
          refine (frame_ref _ (acc.map mk) (x.extract 1 (n + 1)) _ (unhide HAC) (by rw [List.length_map]; omega) (fun i hi => by
            rw [List.length_map] at hi
            rw [List.getD, List.getElem?_map, List.getElem?_eq_getElem hi]
            exact unhide HA _ (List.getElem_mem hi)) (by omega)).mono ?_
          rw [bs_mk]
          rintro e w1 ⟨rfl, hb1⟩
          have hown1 := own_below hown hb1 (Nat.le_refl _)
          have hbel1 := hbel.trans (hb1.mono hbel.size)
          have hsz1 := hbel1.size
          have hfd : (mk (frm (last 0 acc) (x.extract 1 (n + 1)).data.toList)).toList = frm (last 0 acc) (x.extract 1 (n + 1)).data.toList := by rw [ByteArray.toList_eq, mk_data]
          have HFD := hide hfd
          generalize mk (frm (last 0 acc) (x.extract 1 (n + 1)).data.toList) = FR at hfd HFD ⊢
          clear hown hbel hb1 HAC hfd
          rcases unhide HQ2 with he | he
          · have hq : ((x.extract 0 (n + 3)).toList == FR.toList) = true := by
              rw [unhide HFD, ByteArray.toList_eq, beq_iff_eq]
              exact (unhide HQ1).2 he
            have hN := (unhide HR).next (unhide HT) ha he
            obtain ⟨hE, hL⟩ := unhide HQ4 he
            have hxd : (x.extract 1 (n + 1)).data.toList.length = n := q3
            rw [hE, hL, hxd, ← last_snoc] at hN
            have HN := hide hN
            have HMS := hide (mk_self (x.extract 1 (n + 1)))
            have HXL := hide hxd
            clear hN hE hL hxd he
            go_wp2_with (at_builtin; go_must (refine wpList_append_own _ rfl (.tmp 48) (.tmp 53) 22 rfl w.heap.size 9 i0 (.string ⟨#[]⟩) 1 16 Try.underlying22 hi hz0 hz1 hz2 rfl (by decide) _ _ _ rfl (hown1.alloc _) ⟨w1.heap.size, 0, none⟩ 1 1 [.string (x.extract 1 (n + 1))] rfl rfl ?c1 ?c2 ?c3 ?c4 ?c5 ?_))
            case c1 => exact cell_one_new _ _ _
            case c2 => intro u hu; simp at hu; subst hu; rfl
            case c3 => unfold maxLen; omega
            case c4 => omega
            case c5 => simp; omega
            intro v3 w3 hown3 hgrow3 _
            have hbel3 : Below w.heap.size w w3 := (hbel1.alloc hsz1 _).grown hgrow3 (by simp; omega) (own_row_ge hown1)
            clear hgrow3 hown1 hbel1
            go_wp2
            go_roundw
            case rel =>
              refine ⟨acc ++ [(x.extract 1 (n + 1)).data.toList], x.extract (n + 3) x.size, by simp; omega, by simp; omega, ⟨?_, ?_⟩, rfl, ?_, hbel3⟩
              · have := unhide HN
                rw [Nat.add_comm 3 n, ← extract_mk_drop] at this
                exact this
              · intro e he
                rw [List.mem_append, List.mem_singleton] at he
                rcases he with he | rfl
                · exact unhide HA e he
                · rw [unhide HXL]; omega
              · rw [List.length_append, List.length_singleton, List.map_append, List.map_append, List.map_map, List.map_cons, List.map_nil, unhide HMS]
                exact hown3
            case measure => simp; omega
          · have hq : ((x.extract 0 (n + 3)).toList == FR.toList) = false := by
              rw [unhide HFD, ByteArray.toList_eq, beq_eq_false_iff_ne]
              intro h
              have := (unhide HQ1).1 h
              omega
            have hbd := (unhide HR).bad (unhide HT) ha (by rw [he]; decide)
            rw [he] at hbd
            have HF := hide hbd
            clear hbd he
            go_wp2
            go_ret3
            have hF := unhide HF
            rw [show s.data.toList.length = s.size from rfl] at hF
            rw [hF]
            exact ⟨_, rfl, hown1, hbel1⟩
    · have hx1 : x.data.toList = [] := List.eq_nil_of_length_eq_zero (by have : x.data.toList.length = x.size := rfl; omega)
      have hne : x.toList.isEmpty = true := by rw [ByteArray.toList_eq, hx1]; rfl
      have hR := unhide HR
      rw [hx1] at hR
      have HD := hide hR.done
      clear hR hx1
      go_wp2
      go_ret3
      have hF := unhide HD
      rw [show s.data.toList.length = s.size from rfl] at hF
      rw [hF]
      exact ⟨_, rfl, hown, hbel⟩

theorem rRead_any (s : ByteArray) (w : World) (hm : s.size ≤ maxLen) :
    Calls Try.prog 18 #[.string s] w fun e w' => ∃ v, e = .returned (.tuple #[v, .int .i64 (rdOld s.data.toList).2.1, .int .i64 (rdOld s.data.toList).2.2]) ∧
      w'.ownsRow w.heap.size 9 1 v (rdOld s.data.toList).1.length (((rdOld s.data.toList).1.map mk).map Value.string) ∧ Below w.heap.size w w' := by
  unfold rdOld
  by_cases h : 2300 < s.data.toList.length
  · rw [if_pos h]
    refine (rRead_long s w h hm).mono ?_
    rintro e w' ⟨rfl, rfl⟩
    exact ⟨_, rfl, World.ownsRow_nil _ _ _ _, Below.refl _ _⟩
  · rw [if_neg h]
    exact rRead_short s w (by have : s.data.toList.length = s.size := rfl; omega)
end Go.Proofs.Ytanfolfopalbeaa
