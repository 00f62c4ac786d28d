/- package carry: Step: the contract. -/
import Derived.Test.YtanfolfopalbeaaDoorCarry5
import Derived.Test.YtanfolfopalbeaaDoorRead
import Derived.Test.YtanfolfopalbeaaDoorKeep
import Derived.Deep.RegionHeld3
import Derived.Test.YtanfolfopalbeaaDoorAppend
import Derived.Deep.RegionWith
import Derived.BigRegion
import Derived.Deep.MidRow
namespace Go.Proofs.YtanfolfopalbeaaDoor
open Go.RowKit

theorem rd_facts : ∀ (f k v : Nat) (l : List UInt8), k ≤ 100 → (rd f k v l).1.length + k ≤ 100 ∧ (∀ e ∈ (rd f k v l).1, e.length ≤ 20) ∧ (rd f k v l).2.1 ≤ 4 ∧ (rd f k v l).2.2 ≤ 100 := by
  intro f
  induction f with
  | zero => intro k v l hk; exact ⟨by simpa [rd] using hk, by simp [rd], by simp [rd], by simp [rd]⟩
  | succ f ih =>
    intro k v l hk
    by_cases hl : l = []
    · subst hl
      rw [rd_end]
      exact ⟨by simpa using hk, by simp, by simp, by simp⟩
    · by_cases h1 : k = 100
      · subst h1
        rw [rd_full f v l hl]
        exact ⟨by simp, by simp, by simp, by simp⟩
      · by_cases he : rfErr l v = 0
        · rw [rd_step f k v l hl h1 he]
          obtain ⟨a, b, c, d⟩ := ih (k + 1) (rfLnk l v) (l.drop (3 + (rfEnt l v).length)) (by omega)
          refine ⟨by simp only [List.length_cons]; omega, ?_, c, d⟩
          intro e hm
          rcases List.mem_cons.1 hm with rfl | hm
          · exact (rfEnt_le l v).1
          · exact b e hm
        · rw [rd_bad f k v l hl h1 he]
          exact ⟨by simpa using hk, by simp, rfErr_le l v, hk⟩
theorem rdOld_facts (l : List UInt8) : (rdOld l).1.length ≤ 100 ∧ (∀ e ∈ (rdOld l).1, e.length ≤ 20) ∧ (rdOld l).2.1 ≤ 4 ∧ (rdOld l).2.2 ≤ 100 := by
  unfold rdOld
  split
  · exact ⟨by simp, by simp, by simp, by simp⟩
  · have := rd_facts l.length 0 0 l (by omega)
    exact ⟨by omega, this.2.1, this.2.2.1, this.2.2.2⟩
/-- How far a batch goes. -/
def goesTo (k b n : Nat) : Nat := min (k + b) n
/-- The entries of the next batch. -/
def nextB (rs : List (List UInt8)) (k b : Nat) : List (List UInt8) := (rs.drop k).take (goesTo k b rs.length - k)
/-- What Step answers of a disk with entries es and of an old log that reads as r: the plan, the error, the number. -/
def stepOf (r : List (List UInt8) × Nat × Nat) (d es : List (List UInt8)) (b : Nat) : List It × Nat × Nat :=
  if r.2.1 = 1 ∨ (r.2.1 ≠ 0 ∧ r.2.2 < es.length + b) then ([], r.2.1, r.2.2)
  else if r.1.length ≤ es.length then ([], 8, 0)
  else if 32 * (d.length - 1) < (wb es).length + (wb (nextB r.1 es.length b)).length then ([], 9, 0)
  else (planL d (wb es) (wb (nextB r.1 es.length b)) (goesTo es.length b r.1.length), 0, 0)
/-- What Step answers. -/
def stepR (l : List UInt8) (d : List (List UInt8)) (b : Int) : List It × Nat × Nat :=
  if (dEnt d).2 ≠ 0 then ([], 6, 0) else if b < 1 ∨ 100 < b then ([], 7, 0) else stepOf (rdOld l) d (dEnt d).1 b.toNat
theorem Strs.mid {w : World} {b off cap n : Nat} {ss : List ByteArray} (h : Strs w (.slice (some ⟨b, off, none⟩) n cap) ss) (k m : Nat) (hk : k + m ≤ n) : Strs w (.slice (some ⟨b, off + k, none⟩) m (cap - k)) ((ss.drop k).take m) :=
  (h.back k (by omega)).front m (by omega)
theorem map_mk_mid (rs : List (List UInt8)) (k m : Nat) : ((rs.map mk).drop k).take m = ((rs.drop k).take m).map mk := by rw [List.map_take, List.map_drop]

set_option maxRecDepth 100000 in
set_option maxHeartbeats 400000 in
theorem step_disk (s : ByteArray) (v : Value) (ds : List (List UInt8)) (bt : Int) (w : World) (hD : Digs w v ds) (h6 : (dEnt ds).2 = 6) :
    Calls Tryd.prog 82 #[.string s, v, .int .i64 bt] w fun e w' => e = .returned (.tuple #[.slice none 0 0, .int .i64 6, .int .i64 0]) ∧ Below w.heap.size w w' := by
  have HE := hide (ents_any v ds w hD)
  rw [h6] at HE
  clear h6 hD
  go_enter Tryd.func82, Tryd.ntmps82
  go_wp2_with fail
  refine (unhide HE).mono ?_
  rintro e w1 ⟨v1, rfl, hown1, hb1⟩
  go_wp2
  go_ret3
  exact ⟨rfl, hb1⟩

set_option maxRecDepth 100000 in
set_option maxHeartbeats 400000 in
theorem step_batch (s : ByteArray) (v : Value) (ds : List (List UInt8)) (bt : Int) (w : World) (hD : Digs w v ds) (h0 : (dEnt ds).2 = 0) (hb : bt < 1 ∨ 100 < bt) :
    Calls Tryd.prog 82 #[.string s, v, .int .i64 bt] w fun e w' => e = .returned (.tuple #[.slice none 0 0, .int .i64 7, .int .i64 0]) ∧ Below w.heap.size w w' := by
  have HE := hide (ents_any v ds w hD)
  rw [h0] at HE
  clear h0 hD
  by_cases h1 : bt < 1
  · have hd1 : decide (bt < 1) = true := by simp; omega
    go_enter Tryd.func82, Tryd.ntmps82
    go_wp2_with fail
    refine (unhide HE).mono ?_
    rintro e w1 ⟨v1, rfl, hown1, hb1⟩
    go_wp2
    go_ret3
    exact ⟨rfl, hb1⟩
  · have hd1 : decide (bt < 1) = false := by simp; omega
    have hd2 : decide (100 < bt) = true := by simp; omega
    go_enter Tryd.func82, Tryd.ntmps82
    go_wp2_with fail
    refine (unhide HE).mono ?_
    rintro e w1 ⟨v1, rfl, hown1, hb1⟩
    go_wp2
    go_ret3
    exact ⟨rfl, hb1⟩

set_option maxRecDepth 100000 in
set_option maxHeartbeats 3200000 in
theorem step_in (s : ByteArray) (v : Value) (ds es : List (List UInt8)) (bt : Nat) (w : World) (hm : s.size ≤ maxLen) (hD : Digs w v ds) (hE : dEnt ds = (es, 0)) (hst : Std ds es) (hb1 : 1 ≤ bt) (hb2 : bt ≤ 100) :
    Calls Tryd.prog 82 #[.string s, v, .int .i64 bt] w fun e w' => ∃ v', e = .returned (.tuple #[v', .int .i64 (stepOf (rdOld s.data.toList) ds es bt).2.1, .int .i64 (stepOf (rdOld s.data.toList) ds es bt).2.2]) ∧
      w'.ownsRow w.heap.size 131 34 v' (stepOf (rdOld s.data.toList) ds es bt).1.length (pcells (stepOf (rdOld s.data.toList) ds es bt).1) ∧ Below w.heap.size w w' := by
  have HE := hide (ents_any v ds w hD)
  rw [hE] at HE
  have HRD := hide (fun wq => read_any s wq hm)
  obtain ⟨hr1, hr2, hr3, hr4⟩ := rdOld_facts s.data.toList
  have hn2 := hst.n2
  have hn3 := hst.n300
  have hfe := hst.few
  have HSM := hide (mk_small hst.small)
  have hwl := wb_length_le es hst.small
  have HD := hide (fun wq hb => hD.below (w' := wq) (B := w.heap.size) hb (Nat.le_refl _))
  obtain ⟨b, off, cap, hv, _, _⟩ := digs_shape hD (by omega)
  subst hv
  generalize rdOld s.data.toList = R at HRD hr1 hr2 hr3 hr4 ⊢
  obtain ⟨rs, er, nu⟩ := R
  simp only at hr1 hr2 hr3 hr4 HRD ⊢
  have HRS := hide hr2
  have hd1 : decide ((bt : Int) < 1) = false := by simp; omega
  have hd2 : decide ((100 : Int) < (bt : Int)) = false := by simp; omega
  clear hE hst hD hr2
  go_enter Tryd.func82, Tryd.ntmps82
  go_wp2_with fail
  refine (unhide HE).mono ?_
  rintro e w1 ⟨v1, rfl, hown1, hbel1⟩
  obtain ⟨ao1, cap1, hv1⟩ := own_shape hown1
  subst hv1
  have S1 := hide (strs_of_own (ss := es.map mk) (by simpa using hown1))
  clear HE hown1
  go_wp2_with fail
  refine (unhide HRD _).mono ?_
  rintro e w2 ⟨v2, rfl, hown2, hb2'⟩
  obtain ⟨ao2, cap2, hv2⟩ := own_shape hown2
  subst hv2
  have hbel2 := hbel1.trans (hb2'.mono hbel1.size)
  have S2 := hide ((unhide S1).below hb2' (Nat.le_refl _))
  have hR2 := strs_of_own (ss := rs.map mk) (by simpa using hown2)
  clear HRD S1 hown2 hb2' hbel1
  by_cases hbad : er = 1 ∨ (er ≠ 0 ∧ nu < es.length + bt)
  · have HST := hide (show stepOf (rs, er, nu) ds es bt = ([], er, nu) by unfold stepOf; rw [if_pos hbad])
    by_cases he1 : er = 1
    · have hx1 : ((er : Int) == 1) = true := by rw [beq_iff_eq]; omega
      clear hbad he1
      go_wp2
      go_ret3
      rw [unhide HST]
      exact ⟨_, rfl, World.ownsRow_nil _ _ _ _, hbel2⟩
    · have hx1 : ((er : Int) == 1) = false := by rw [beq_eq_false_iff_ne]; omega
      have hx2 : ((er : Int) != 0) = true := by rw [bne_iff_ne]; omega
      have hx3 : decide ((nu : Int) < (es.length : Int) + (bt : Int)) = true := by simp; omega
      clear hbad he1
      go_wp2
      go_ret3
      rw [unhide HST]
      exact ⟨_, rfl, World.ownsRow_nil _ _ _ _, hbel2⟩
  · by_cases hdone : rs.length ≤ es.length
    · have HST := hide (show stepOf (rs, er, nu) ds es bt = ([], 8, 0) by unfold stepOf; rw [if_neg hbad, if_pos hdone])
      have hx4 : decide ((rs.length : Int) ≤ (es.length : Int)) = true := by simp; omega
      have hx1 : ((er : Int) == 1) = false := by rw [beq_eq_false_iff_ne]; omega
      by_cases he0 : er = 0
      · have hx2 : ((er : Int) != 0) = false := by rw [bne_eq_false_iff_eq]; omega
        clear hbad he0
        go_wp2
        go_ret3
        rw [unhide HST]
        exact ⟨_, rfl, World.ownsRow_nil _ _ _ _, hbel2⟩
      · have hx2 : ((er : Int) != 0) = true := by rw [bne_iff_ne]; omega
        have hx3 : decide ((nu : Int) < (es.length : Int) + (bt : Int)) = false := by simp; omega
        clear hbad he0
        go_wp2
        go_ret3
        rw [unhide HST]
        exact ⟨_, rfl, World.ownsRow_nil _ _ _ _, hbel2⟩
    · have hx4 : decide ((rs.length : Int) ≤ (es.length : Int)) = false := by simp; omega
      have hx1 : ((er : Int) == 1) = false := by rw [beq_eq_false_iff_ne]; omega
      obtain ⟨b2, o2, c2, hv2, hc2⟩ := strs_shape hR2 (by intro h; have := congrArg List.length h; simp at this; rw [this] at hdone; simp at hdone)
      simp only [Value.slice.injEq, List.length_map, true_and] at hv2
      obtain ⟨rfl, rfl⟩ := hv2
      rw [List.length_map] at hc2
      have hnb : (nextB rs es.length bt).length = goesTo es.length bt rs.length - es.length := by
        unfold nextB goesTo
        rw [List.length_take, List.length_drop]
        omega
      have hns : ∀ e ∈ nextB rs es.length bt, e.length ≤ 20 := fun e he => unhide HRS e (List.mem_of_mem_drop (List.mem_of_mem_take he))
      have hnwl := wb_length_le _ hns
      have HNS := hide (mk_small hns)
      have hgt : goesTo es.length bt rs.length = min (es.length + bt) rs.length := rfl
      have HMID := hide (fun wq (hb : Below w2.heap.size w2 wq) => (map_mk_mid rs es.length (goesTo es.length bt rs.length - es.length)) ▸ ((hR2.below (w' := wq) (B := w2.heap.size) hb (Nat.le_refl _)).mid es.length (goesTo es.length bt rs.length - es.length) (by omega)))
      have HST0 := hide (show stepOf (rs, er, nu) ds es bt = if 32 * (ds.length - 1) < (wb es).length + (wb (nextB rs es.length bt)).length then ([], 9, 0) else (planL ds (wb es) (wb (nextB rs es.length bt)) (goesTo es.length bt rs.length), 0, 0) by unfold stepOf; rw [if_neg hbad, if_neg hdone])
      have hmore : (rs.drop es.length).take (goesTo es.length bt rs.length - es.length) = nextB rs es.length bt := rfl
      rw [hmore] at HMID
      generalize hge : goesTo es.length bt rs.length = g at *
      generalize hne : nextB rs es.length bt = nb at *
      have hgl : es.length < g ∧ g ≤ rs.length := by omega
      clear hmore hne hns hR2 hgt
      have HGE := hide hge
      clear hge
      by_cases he0 : er = 0
      · have hx2 : ((er : Int) != 0) = false := by rw [bne_eq_false_iff_eq]; omega
        clear hbad hdone he0
        by_cases hend : rs.length < es.length + bt
        · have hx5 : decide ((rs.length : Int) < (es.length : Int) + (bt : Int)) = true := by simp; omega
          obtain rfl : g = rs.length := by have := unhide HGE; unfold goesTo at this; omega
          go_wp2_with fail
          refine (writeBody_any _ (es.map mk) _ (unhide S2) (by simpa using hfe) (unhide HSM)).mono ?_
          rw [bs_mk]
          rintro e w3 ⟨rfl, hb3⟩
          have hbel3 := hbel2.trans (hb3.mono hbel2.size)
          have M3 := hide (unhide HMID _ hb3)
          have hnl : nb.length ≤ 100 := by omega
          have g1 : (es.length : Int) ≤ (rs.length : Int) := by omega
          have g2 : (rs.length : Int) ≤ (cap2 : Int) := by omega
          have g3 : (rs.length : Int) ≤ (rs.length : Int) := by omega
          have g4 : ((rs.length : Int) - (es.length : Int)).toNat = rs.length - es.length := by omega
          clear S2 HMID HSM hb3 hbel2 hnb
          go_wp2_with fail
          refine (writeBody_any _ (nb.map mk) _ (unhide M3) (by rw [List.length_map]; exact hnl) (unhide HNS)).mono ?_
          rw [bs_mk]
          rintro e w4 ⟨rfl, hb4⟩
          have hbel4 := hbel3.trans (hb4.mono hbel3.size)
          have D4 := hide (unhide HD _ hbel4)
          clear M3 HD HNS hb4 hbel3
          have hA : (mk (wb es)).size = (wb es).length := mk_size _
          have hM : (mk (wb nb)).size = (wb nb).length := mk_size _
          have hP := fun wq hd hr => plan_any (.slice (some ⟨b, off, none⟩) ds.length cap) ds (mk (wb es)) (mk (wb nb)) rs.length wq hd hn2 hn3 hr (by omega)
          have HP := hide hP
          clear hP
          have HAM := hide (show ∀ c, planL ds (mk (wb es)).data.toList (mk (wb nb)).data.toList c = planL ds (wb es) (wb nb) c from fun _ => rfl)
          rw [← hA, ← hM] at HST0
          rw [← hA] at hwl
          rw [← hM] at hnwl
          clear hA hM
          generalize hAe : mk (wb es) = A at *
          generalize hMe : mk (wb nb) = M at *
          clear hAe hMe
          by_cases hfull : 32 * (ds.length - 1) < A.size + M.size
          · have HST := hide (show stepOf (rs, er, nu) ds es bt = ([], 9, 0) by rw [unhide HST0, if_pos hfull])
            have hx6 : decide (((ds.length : Int) - 1) * 32 < (A.size : Int) + (M.size : Int)) = true := by simp; omega
            go_wp2
            go_ret3
            rw [unhide HST]
            exact ⟨_, rfl, World.ownsRow_nil _ _ _ _, hbel4⟩
          · have HST := hide (show stepOf (rs, er, nu) ds es bt = (planL ds (wb es) (wb nb) rs.length, 0, 0) by rw [unhide HST0, if_neg hfull])
            have hx6 : decide (((ds.length : Int) - 1) * 32 < (A.size : Int) + (M.size : Int)) = false := by simp; omega
            go_wp2_with fail
            refine (unhide HP _ (unhide D4) (by omega)).mono ?_
            rw [unhide HAM]
            rintro e w5 ⟨v5, rfl, hown5, hb5⟩
            have hbel5 := hbel4.trans (hb5.mono hbel4.size)
            go_wp2
            go_ret3
            rw [unhide HST]
            exact ⟨_, rfl, own_base hown5 hbel4.size, hbel5⟩
        · have hx5 : decide ((rs.length : Int) < (es.length : Int) + (bt : Int)) = false := by simp; omega
          obtain rfl : g = es.length + bt := by have := unhide HGE; unfold goesTo at this; omega
          rw [Nat.add_sub_cancel_left] at HMID
          go_wp2_with fail
          refine (writeBody_any _ (es.map mk) _ (unhide S2) (by simpa using hfe) (unhide HSM)).mono ?_
          rw [bs_mk]
          rintro e w3 ⟨rfl, hb3⟩
          have hbel3 := hbel2.trans (hb3.mono hbel2.size)
          have M3 := hide (unhide HMID _ hb3)
          have hnl : nb.length ≤ 100 := by omega
          have g1 : (es.length : Int) ≤ (es.length : Int) + (bt : Int) := by omega
          have g2 : (es.length : Int) + (bt : Int) ≤ (cap2 : Int) := by omega
          have g3 : (es.length : Int) + (bt : Int) ≤ (rs.length : Int) := by omega
          clear S2 HMID HSM hb3 hbel2 hnb
          go_wp2_with fail
          refine (writeBody_any _ (nb.map mk) _ (unhide M3) (by rw [List.length_map]; exact hnl) (unhide HNS)).mono ?_
          rw [bs_mk]
          rintro e w4 ⟨rfl, hb4⟩
          have hbel4 := hbel3.trans (hb4.mono hbel3.size)
          have D4 := hide (unhide HD _ hbel4)
          clear M3 HD HNS hb4 hbel3
          have hA : (mk (wb es)).size = (wb es).length := mk_size _
          have hM : (mk (wb nb)).size = (wb nb).length := mk_size _
          have hP := fun wq hd hr => plan_any (.slice (some ⟨b, off, none⟩) ds.length cap) ds (mk (wb es)) (mk (wb nb)) (es.length + bt) wq hd hn2 hn3 hr (by omega)
          simp only [Int.natCast_add] at hP
          have HP := hide hP
          clear hP
          have HAM := hide (show ∀ c, planL ds (mk (wb es)).data.toList (mk (wb nb)).data.toList c = planL ds (wb es) (wb nb) c from fun _ => rfl)
          rw [← hA, ← hM] at HST0
          rw [← hA] at hwl
          rw [← hM] at hnwl
          clear hA hM
          generalize hAe : mk (wb es) = A at *
          generalize hMe : mk (wb nb) = M at *
          clear hAe hMe
          by_cases hfull : 32 * (ds.length - 1) < A.size + M.size
          · have HST := hide (show stepOf (rs, er, nu) ds es bt = ([], 9, 0) by rw [unhide HST0, if_pos hfull])
            have hx6 : decide (((ds.length : Int) - 1) * 32 < (A.size : Int) + (M.size : Int)) = true := by simp; omega
            go_wp2
            go_ret3
            rw [unhide HST]
            exact ⟨_, rfl, World.ownsRow_nil _ _ _ _, hbel4⟩
          · have HST := hide (show stepOf (rs, er, nu) ds es bt = (planL ds (wb es) (wb nb) (es.length + bt), 0, 0) by rw [unhide HST0, if_neg hfull])
            have hx6 : decide (((ds.length : Int) - 1) * 32 < (A.size : Int) + (M.size : Int)) = false := by simp; omega
            go_wp2_with fail
            refine (unhide HP _ (unhide D4) (by omega)).mono ?_
            rw [unhide HAM]
            rintro e w5 ⟨v5, rfl, hown5, hb5⟩
            have hbel5 := hbel4.trans (hb5.mono hbel4.size)
            go_wp2
            go_ret3
            rw [unhide HST]
            exact ⟨_, rfl, own_base hown5 hbel4.size, hbel5⟩
      · have hx2 : ((er : Int) != 0) = true := by rw [bne_iff_ne]; omega
        have hx3 : decide ((nu : Int) < (es.length : Int) + (bt : Int)) = false := by simp; omega
        clear hbad hdone he0
        by_cases hend : rs.length < es.length + bt
        · have hx5 : decide ((rs.length : Int) < (es.length : Int) + (bt : Int)) = true := by simp; omega
          obtain rfl : g = rs.length := by have := unhide HGE; unfold goesTo at this; omega
          go_wp2_with fail
          refine (writeBody_any _ (es.map mk) _ (unhide S2) (by simpa using hfe) (unhide HSM)).mono ?_
          rw [bs_mk]
          rintro e w3 ⟨rfl, hb3⟩
          have hbel3 := hbel2.trans (hb3.mono hbel2.size)
          have M3 := hide (unhide HMID _ hb3)
          have hnl : nb.length ≤ 100 := by omega
          have g1 : (es.length : Int) ≤ (rs.length : Int) := by omega
          have g2 : (rs.length : Int) ≤ (cap2 : Int) := by omega
          have g3 : (rs.length : Int) ≤ (rs.length : Int) := by omega
          have g4 : ((rs.length : Int) - (es.length : Int)).toNat = rs.length - es.length := by omega
          clear S2 HMID HSM hb3 hbel2 hnb
          go_wp2_with fail
          refine (writeBody_any _ (nb.map mk) _ (unhide M3) (by rw [List.length_map]; exact hnl) (unhide HNS)).mono ?_
          rw [bs_mk]
          rintro e w4 ⟨rfl, hb4⟩
          have hbel4 := hbel3.trans (hb4.mono hbel3.size)
          have D4 := hide (unhide HD _ hbel4)
          clear M3 HD HNS hb4 hbel3
          have hA : (mk (wb es)).size = (wb es).length := mk_size _
          have hM : (mk (wb nb)).size = (wb nb).length := mk_size _
          have hP := fun wq hd hr => plan_any (.slice (some ⟨b, off, none⟩) ds.length cap) ds (mk (wb es)) (mk (wb nb)) rs.length wq hd hn2 hn3 hr (by omega)
          have HP := hide hP
          clear hP
          have HAM := hide (show ∀ c, planL ds (mk (wb es)).data.toList (mk (wb nb)).data.toList c = planL ds (wb es) (wb nb) c from fun _ => rfl)
          rw [← hA, ← hM] at HST0
          rw [← hA] at hwl
          rw [← hM] at hnwl
          clear hA hM
          generalize hAe : mk (wb es) = A at *
          generalize hMe : mk (wb nb) = M at *
          clear hAe hMe
          by_cases hfull : 32 * (ds.length - 1) < A.size + M.size
          · have HST := hide (show stepOf (rs, er, nu) ds es bt = ([], 9, 0) by rw [unhide HST0, if_pos hfull])
            have hx6 : decide (((ds.length : Int) - 1) * 32 < (A.size : Int) + (M.size : Int)) = true := by simp; omega
            go_wp2
            go_ret3
            rw [unhide HST]
            exact ⟨_, rfl, World.ownsRow_nil _ _ _ _, hbel4⟩
          · have HST := hide (show stepOf (rs, er, nu) ds es bt = (planL ds (wb es) (wb nb) rs.length, 0, 0) by rw [unhide HST0, if_neg hfull])
            have hx6 : decide (((ds.length : Int) - 1) * 32 < (A.size : Int) + (M.size : Int)) = false := by simp; omega
            go_wp2_with fail
            refine (unhide HP _ (unhide D4) (by omega)).mono ?_
            rw [unhide HAM]
            rintro e w5 ⟨v5, rfl, hown5, hb5⟩
            have hbel5 := hbel4.trans (hb5.mono hbel4.size)
            go_wp2
            go_ret3
            rw [unhide HST]
            exact ⟨_, rfl, own_base hown5 hbel4.size, hbel5⟩
        · have hx5 : decide ((rs.length : Int) < (es.length : Int) + (bt : Int)) = false := by simp; omega
          obtain rfl : g = es.length + bt := by have := unhide HGE; unfold goesTo at this; omega
          rw [Nat.add_sub_cancel_left] at HMID
          go_wp2_with fail
          refine (writeBody_any _ (es.map mk) _ (unhide S2) (by simpa using hfe) (unhide HSM)).mono ?_
          rw [bs_mk]
          rintro e w3 ⟨rfl, hb3⟩
          have hbel3 := hbel2.trans (hb3.mono hbel2.size)
          have M3 := hide (unhide HMID _ hb3)
          have hnl : nb.length ≤ 100 := by omega
          have g1 : (es.length : Int) ≤ (es.length : Int) + (bt : Int) := by omega
          have g2 : (es.length : Int) + (bt : Int) ≤ (cap2 : Int) := by omega
          have g3 : (es.length : Int) + (bt : Int) ≤ (rs.length : Int) := by omega
          clear S2 HMID HSM hb3 hbel2 hnb
          go_wp2_with fail
          refine (writeBody_any _ (nb.map mk) _ (unhide M3) (by rw [List.length_map]; exact hnl) (unhide HNS)).mono ?_
          rw [bs_mk]
          rintro e w4 ⟨rfl, hb4⟩
          have hbel4 := hbel3.trans (hb4.mono hbel3.size)
          have D4 := hide (unhide HD _ hbel4)
          clear M3 HD HNS hb4 hbel3
          have hA : (mk (wb es)).size = (wb es).length := mk_size _
          have hM : (mk (wb nb)).size = (wb nb).length := mk_size _
          have hP := fun wq hd hr => plan_any (.slice (some ⟨b, off, none⟩) ds.length cap) ds (mk (wb es)) (mk (wb nb)) (es.length + bt) wq hd hn2 hn3 hr (by omega)
          simp only [Int.natCast_add] at hP
          have HP := hide hP
          clear hP
          have HAM := hide (show ∀ c, planL ds (mk (wb es)).data.toList (mk (wb nb)).data.toList c = planL ds (wb es) (wb nb) c from fun _ => rfl)
          rw [← hA, ← hM] at HST0
          rw [← hA] at hwl
          rw [← hM] at hnwl
          clear hA hM
          generalize hAe : mk (wb es) = A at *
          generalize hMe : mk (wb nb) = M at *
          clear hAe hMe
          by_cases hfull : 32 * (ds.length - 1) < A.size + M.size
          · have HST := hide (show stepOf (rs, er, nu) ds es bt = ([], 9, 0) by rw [unhide HST0, if_pos hfull])
            have hx6 : decide (((ds.length : Int) - 1) * 32 < (A.size : Int) + (M.size : Int)) = true := by simp; omega
            go_wp2
            go_ret3
            rw [unhide HST]
            exact ⟨_, rfl, World.ownsRow_nil _ _ _ _, hbel4⟩
          · have HST := hide (show stepOf (rs, er, nu) ds es bt = (planL ds (wb es) (wb nb) (es.length + bt), 0, 0) by rw [unhide HST0, if_neg hfull])
            have hx6 : decide (((ds.length : Int) - 1) * 32 < (A.size : Int) + (M.size : Int)) = false := by simp; omega
            go_wp2_with fail
            refine (unhide HP _ (unhide D4) (by omega)).mono ?_
            rw [unhide HAM]
            rintro e w5 ⟨v5, rfl, hown5, hb5⟩
            have hbel5 := hbel4.trans (hb5.mono hbel4.size)
            go_wp2
            go_ret3
            rw [unhide HST]
            exact ⟨_, rfl, own_base hown5 hbel4.size, hbel5⟩

theorem step_any (s : ByteArray) (v : Value) (ds : List (List UInt8)) (bt : Int) (w : World) (hm : s.size ≤ maxLen) (hD : Digs w v ds) :
    Calls Tryd.prog 82 #[.string s, v, .int .i64 bt] w fun e w' => ∃ v', e = .returned (.tuple #[v', .int .i64 (stepR s.data.toList ds bt).2.1, .int .i64 (stepR s.data.toList ds bt).2.2]) ∧
      w'.ownsRow w.heap.size 131 34 v' (stepR s.data.toList ds bt).1.length (pcells (stepR s.data.toList ds bt).1) ∧ Below w.heap.size w w' := by
  rcases dEnt_spec hD.1 with ⟨h1, h2, _⟩ | ⟨h1, h2, _⟩
  · rw [show stepR s.data.toList ds bt = ([], 6, 0) by unfold stepR; rw [if_pos (by omega)]]
    refine (step_disk s v ds bt w hD h1).mono ?_
    rintro e w' ⟨rfl, hb⟩
    exact ⟨_, rfl, World.ownsRow_nil _ _ _ _, hb⟩
  · by_cases hb : bt < 1 ∨ 100 < bt
    · rw [show stepR s.data.toList ds bt = ([], 7, 0) by unfold stepR; rw [if_neg (by omega), if_pos hb]]
      refine (step_batch s v ds bt w hD h1 hb).mono ?_
      rintro e w' ⟨rfl, hb⟩
      exact ⟨_, rfl, World.ownsRow_nil _ _ _ _, hb⟩
    · rw [show stepR s.data.toList ds bt = stepOf (rdOld s.data.toList) ds (dEnt ds).1 bt.toNat by unfold stepR; rw [if_neg (by omega), if_neg hb]]
      obtain ⟨n, rfl⟩ : ∃ n : Nat, bt = (n : Int) := ⟨bt.toNat, by omega⟩
      exact step_in s v ds (dEnt ds).1 n w hm hD (by rw [← h1]) h2 (by omega) (by omega)

set_option maxRecDepth 100000 in
set_option maxHeartbeats 400000 in
theorem Step_any (s : ByteArray) (v : Value) (ds : List (List UInt8)) (bt : Int) (w : World) (hm : s.size ≤ maxLen) (hD : Digs w v ds) :
    Calls Tryd.prog 42 #[.string s, v, .int .i64 bt] w fun e w' => ∃ v', e = .returned (.tuple #[v', .int .i64 (stepR s.data.toList ds bt).2.1, .int .i64 (stepR s.data.toList ds bt).2.2]) ∧
      w'.ownsRow w.heap.size 131 34 v' (stepR s.data.toList ds bt).1.length (pcells (stepR s.data.toList ds bt).1) ∧ Below w.heap.size w w' := by
  have HS := hide (step_any s v ds bt w hm hD)
  generalize stepR s.data.toList ds bt = r at HS ⊢
  obtain ⟨pl, c, n⟩ := r
  simp only at HS ⊢
  clear hD hm
  go_enter Tryd.func42, Tryd.ntmps42
  go_wp2_with fail
  refine (unhide HS).mono ?_
  rintro e w2 ⟨v2, rfl, hown2, hb2⟩
  go_wp2
  go_ret3
  exact ⟨_, rfl, hown2, hb2⟩
end Go.Proofs.YtanfolfopalbeaaDoor
namespace Go.Proofs.YtanfolfopalbeaaDoor
open Go.RowKit

theorem rot_eq (x n : Nat) (hx : x < 4294967296) (hn : n ≤ 32) : (x * 4294967296 ||| x) / 2 ^ n % 4294967296 = rot x n := by
  apply Nat.eq_of_testBit_eq
  intro i
  unfold rot
  rw [show 4294967296 = 2 ^ 32 from rfl, Nat.testBit_mod_two_pow, Nat.testBit_or, Nat.testBit_mod_two_pow]
  rw [Nat.testBit_div_two_pow, Nat.testBit_div_two_pow, Nat.testBit_or, Nat.testBit_mul_two_pow, Nat.testBit_mul_two_pow]
  have hz : ∀ j, 32 ≤ j → x.testBit j = false := fun j hj => Nat.testBit_lt_two_pow (Nat.lt_of_lt_of_le hx (by
    have : 2 ^ 32 ≤ 2 ^ j := Nat.pow_le_pow_right (by decide) hj
    omega))
  by_cases h1 : i < 32
  · by_cases h2 : i + n < 32
    · simp [h1, show ¬ 32 ≤ i + n by omega, show ¬ 32 - n ≤ i by omega]
    · have e : i + n - 32 = i - (32 - n) := by omega
      simp [h1, show 32 ≤ i + n by omega, show 32 - n ≤ i by omega, hz (i + n) (by omega), e]
  · simp [h1, hz (i + n) (by omega)]

theorem by_bits (x n : Nat) (hx : x < 4294967296) (hn : n ≤ 32) : (bits BinOp.or IntKind.u64 ((x : Int) * 4294967296) (x : Int) / 2 ^ n).tmod 4294967296 = ((rot x n : Nat) : Int) := by
  rw [show (x : Int) * 4294967296 = ((x * 4294967296 : Nat) : Int) by omega, u64_or_nat _ _ (by omega) (by omega)]
  have e1 : ((x * 4294967296 ||| x : Nat) : Int) / 2 ^ n = (((x * 4294967296 ||| x) / 2 ^ n : Nat) : Int) := by simp
  rw [e1, ← rot_eq x n hx hn]
  generalize (x * 4294967296 ||| x) / 2 ^ n = q
  rw [Int.tmod_eq_emod_of_nonneg (by omega)]
  omega

set_option maxRecDepth 100000 in
set_option maxHeartbeats 400000 in
theorem by_any (x n : Nat) (w : World) (hx : x < 4294967296) (hn : n ≤ 32) :
    Calls Tryd.prog 92 #[.int .u64 x, .int .u64 n] w fun e w' => e = .returned (.int .u64 (rot x n)) ∧ w' = w := by
  go_enter Tryd.func92, Tryd.ntmps92
  go_wp2
  go_ret
  exact ⟨ret_int (by_bits x n hx hn), rfl⟩

theorem info_u64 : (Tryd.prog.info? 22).map (fun i => (i.zero, i.size, i.bytes)) = some (some (.int .u64 0), 1, 8) := by kernel_rfl
/-- Bytes as cells of numbers. -/
def ncells (l : List UInt8) : List Value := l.map fun b => Value.int .u64 (b.toNat : Int)
theorem ncells_append (a b : List UInt8) : ncells (a ++ b) = ncells a ++ ncells b := by simp [ncells]
theorem ncells_length (a : List UInt8) : (ncells a).length = a.length := by simp [ncells]
/-- The length in bits, byte by byte, from the highest on. -/
def lenR (x k : Nat) : List UInt8 := (List.range k).map fun i => UInt8.ofNat (x / 2 ^ (8 * (7 - i)) % 256)
theorem lenR_succ (x k : Nat) : lenR x (k + 1) = lenR x k ++ [UInt8.ofNat (x / 2 ^ (8 * (7 - k)) % 256)] := by
  unfold lenR
  rw [List.range_succ, List.map_append]
  rfl
def padR (l : List UInt8) : List UInt8 := l ++ [128] ++ List.replicate (zs (l.length + 1)) 0 ++ lenR (8 * l.length) 8

set_option maxRecDepth 100000 in
set_option maxHeartbeats 1600000 in
theorem rpad_any (s : ByteArray) (w : World) (hs : s.size ≤ 1048576) :
    Calls Tryd.prog 53 #[.string s] w fun e w' => ∃ v, e = .returned v ∧ w'.ownsRow w.heap.size 22 1 v (padR s.data.toList).length (ncells (padR s.data.toList)) ∧ Below w.heap.size w w' := by
  obtain ⟨i0, hi, hz0, hz1, hz2⟩ := info_parts info_u64
  go_enter Tryd.func53, Tryd.ntmps53
  go_wp2
  go_loopw [3, 4] (fun v i wr => ∃ k : Nat, k ≤ s.size ∧ i = .int .i64 k ∧ wr.ownsRow w.heap.size 22 1 v k (ncells (s.data.toList.take k)) ∧ Below w.heap.size w wr) (fun _ i _ => s.size - (intOf i).toNat)
  case atStart => exact ⟨0, Nat.zero_le _, rfl, World.ownsRow_nil _ _ _ _, Below.refl _ _⟩
  case round =>
    obtain ⟨k, hk, rfl, hown, hbel⟩ := hrel
    have hszr := hbel.size
    by_cases hlt : k < s.size
    · have HT := hide (take_snoc s k hlt)
      have hb := (s[k]'hlt).toNat_lt
      have hd1 : decide ((k : Int) < (s.size : Int)) = true := by simp; omega
      go_wp2_with (at_builtin; go_must (refine wpList_append_own _ rfl (.tmp 13) (.tmp 18) 103 rfl w.heap.size 22 i0 (.int .u64 0) 1 8 Tryd.underlying103 hi hz0 hz1 hz2 rfl (by decide) _ _ _ rfl (hown.alloc _) ⟨wr.heap.size, 0, none⟩ 1 1 [.int .u64 ((s[k].toNat : Nat) : Int)] rfl rfl ?c1 ?c2 ?c3 ?c4 ?c5 ?_))
      case c1 => exact cell_one_new _ _ _
      case c2 => intro u hu; simp at hu; subst hu; rfl
      case c3 => unfold maxLen; omega
      case c4 => omega
      case c5 => simp; omega
      intro v3 w3 hown3 hgrow3 _
      have hbel3 : Below w.heap.size w w3 := (hbel.alloc hszr _).grown hgrow3 (by simp; omega) (own_row_ge hown)
      clear hgrow3 hown hbel
      go_wp2
      go_roundw
      case rel => exact ⟨k + 1, by omega, by go_num, by rw [unhide HT, ncells_append]; exact hown3, hbel3⟩
      case measure => simp [intOf]; omega
    · have hke : k = s.size := by omega
      rw [hke] at hown
      rw [List.take_of_length_le (show s.data.toList.length ≤ s.size from Nat.le_refl _)] at hown
      have hd1 : decide ((k : Int) < (s.size : Int)) = false := by simp; omega
      have hl0 : (s.data.toList ++ [128]).length = s.size + 1 := by rw [List.length_append]; rfl
      have HP := hide (show padR s.data.toList = (s.data.toList ++ [128]) ++ List.replicate (zs (s.size + 1)) 0 ++ lenR (8 * s.size) 8 from rfl)
      have hJ : zs (s.size + 1) < 64 := by unfold zs; omega
      have hJ2 : (s.size + 1 + zs (s.size + 1)) % 64 = 56 := by unfold zs; omega
      have hJ3 : ∀ j, j < zs (s.size + 1) → (s.size + 1 + j) % 64 ≠ 56 := by unfold zs; omega
      generalize zs (s.size + 1) = J at hJ hJ2 hJ3 HP
      have HJ := hide hJ3
      have HJ2 := hide hJ2
      clear hke hJ3 hJ2
      go_wp2_with (at_builtin; go_must (refine wpList_append_own _ rfl (.tmp 20) (.tmp 21) 103 rfl w.heap.size 22 i0 (.int .u64 0) 1 8 Tryd.underlying103 hi hz0 hz1 hz2 rfl (by decide) _ _ _ rfl (hown.alloc _) ⟨wr.heap.size, 0, none⟩ 1 1 [.int .u64 128] rfl rfl ?d1 ?d2 ?d3 ?d4 ?d5 ?_))
      case d1 => exact cell_one_new _ _ _
      case d2 => intro u hu; simp at hu; subst hu; rfl
      case d3 => unfold maxLen; omega
      case d4 => omega
      case d5 => simp; omega
      intro v2 w2 hown2 hgrow2 _
      have hbel2 : Below w.heap.size w w2 := (hbel.alloc hszr _).grown hgrow2 (by simp; omega) (own_row_ge hown)
      have e2 : ncells s.data.toList ++ [Value.int .u64 128] = ncells (s.data.toList ++ [128]) := by rw [ncells_append]; rfl
      rw [e2] at hown2
      generalize s.data.toList ++ [128] = l0 at hown2 hl0 HP
      clear hgrow2 hown hbel e2
      go_wp2
      go_loopw [3] (fun v wq => ∃ j : Nat, j ≤ J ∧ wq.ownsRow w.heap.size 22 1 v (s.size + 1 + j) (ncells (l0 ++ List.replicate j 0)) ∧ Below w.heap.size w wq) (fun v _ => (match v with | .slice _ m _ => s.size + 1 + J - m | _ => 0))
      case atStart => exact ⟨0, Nat.zero_le _, by rw [List.replicate_zero, List.append_nil]; exact hown2, hbel2⟩
      case round =>
        obtain ⟨j, hj, hown, hbel⟩ := hrel
        obtain ⟨ao, cap, rfl⟩ := own_shape hown
        have hszq := hbel.size
        by_cases hlt : j < J
        · have hne := unhide HJ j hlt
          go_wp2_with (at_builtin; go_must (refine wpList_append_own _ rfl (.tmp 27) (.tmp 28) 103 rfl w.heap.size 22 i0 (.int .u64 0) 1 8 Tryd.underlying103 hi hz0 hz1 hz2 rfl (by decide) _ _ _ rfl (hown.alloc _) ⟨wr.heap.size, 0, none⟩ 1 1 [.int .u64 0] rfl rfl ?f1 ?f2 ?f3 ?f4 ?f5 ?_))
          case f1 => exact cell_one_new _ _ _
          case f2 => intro u hu; simp at hu; subst hu; rfl
          case f3 => unfold maxLen; omega
          case f4 => omega
          case f5 => simp; omega
          intro v3 w3 hown3 hgrow3 _
          have hbel3 : Below w.heap.size w w3 := (hbel.alloc hszq _).grown hgrow3 (by simp; omega) (own_row_ge hown)
          have e3 : ncells (l0 ++ List.replicate j 0) ++ [Value.int .u64 0] = ncells (l0 ++ List.replicate (j + 1) 0) := by
            rw [List.replicate_succ', ← List.append_assoc, ncells_append (l0 ++ List.replicate j 0)]; rfl
          rw [e3] at hown3
          obtain ⟨ao3, cap3, hv3⟩ := own_shape hown3
          rw [hv3] at hown3 ⊢
          clear hv3 hgrow3 e3 hown hbel
          go_wp2
          go_roundw
          case rel => exact ⟨j + 1, by omega, hown3, hbel3⟩
          case measure => simp; omega
        · have hje : j = J := by omega
          subst hje
          have hm := unhide HJ2
          generalize hqe : s.size + 1 + j = q at hown hm ⊢
          have hq2 : q ≤ 1048700 := by omega
          generalize l0 ++ List.replicate j 0 = l1 at hown HP
          have hd : ((q : Int) % 64 != 56) = false := by rw [bne_eq_false_iff_eq]; omega
          clear HJ HJ2 hqe
          go_wp2
          go_loopw [3, 6] (fun v i wz => ∃ k : Nat, k ≤ 8 ∧ i = .int .i64 (7 - (k : Int)) ∧ wz.ownsRow w.heap.size 22 1 v (q + k) (ncells (l1 ++ lenR (8 * s.size) k)) ∧ Below w.heap.size w wz) (fun _ i _ => (intOf i + 1).toNat)
          case atStart => exact ⟨0, by omega, rfl, by rw [show lenR (8 * s.size) 0 = [] from rfl, List.append_nil]; exact hown, hbel⟩
          case round =>
            obtain ⟨k, hk, rfl, hown, hbel⟩ := hrel
            have hszz := hbel.size
            by_cases hlt : k < 8
            · obtain ⟨m, hme⟩ : ∃ m : Nat, m = 7 - k := ⟨_, rfl⟩
              have hmi : (7 : Int) - (k : Int) = (m : Int) := by omega
              have HL := hide (lenR_succ (8 * s.size) k)
              have HME := hide hme
              have hm7 : m ≤ 7 := by omega
              rw [hmi]
              have HMI := hide hmi
              clear hme hmi
              go_wp2_with (at_builtin; go_must (refine wpList_append_own _ rfl (.tmp 38) (.tmp 45) 103 rfl w.heap.size 22 i0 (.int .u64 0) 1 8 Tryd.underlying103 hi hz0 hz1 hz2 rfl (by decide) _ _ _ rfl (hown.alloc _) ⟨wr.heap.size, 0, none⟩ 1 1 [.int .u64 ((8 * (s.size : Int) / 2 ^ (8 * m)).tmod 256)] rfl rfl ?g1 ?g2 ?g3 ?g4 ?g5 ?_))
              case g1 => exact cell_one_new _ _ _
              case g2 => intro u hu; simp at hu; subst hu; rfl
              case g3 => unfold maxLen; omega
              case g4 => omega
              case g5 => simp; omega
              intro v3 w3 hown3 hgrow3 _
              have hbel3 : Below w.heap.size w w3 := (hbel.alloc hszz _).grown hgrow3 (by simp; omega) (own_row_ge hown)
              have e3 : ncells (l1 ++ lenR (8 * s.size) k) ++ [Value.int .u64 ((8 * (s.size : Int) / 2 ^ (8 * m)).tmod 256)] = ncells (l1 ++ lenR (8 * s.size) (k + 1)) := by
                rw [unhide HL, ← List.append_assoc, ncells_append (l1 ++ lenR (8 * s.size) k), ← unhide HME]
                congr 1
                simp only [ncells, List.map_cons, List.map_nil]
                rw [UInt8.toNat_ofNat']
                have e4 : 8 * (s.size : Int) / 2 ^ (8 * m) = ((8 * s.size / 2 ^ (8 * m) : Nat) : Int) := by simp
                rw [e4]
                generalize 8 * s.size / 2 ^ (8 * m) = y
                rw [Int.tmod_eq_emod_of_nonneg (by omega)]
                exact congrArg (fun x => [Value.int .u64 x]) (by omega)
              rw [e3] at hown3
              clear hgrow3 e3 hown hbel
              go_wp2
              go_roundw
              case rel => exact ⟨k + 1, by omega, val_int (by have := unhide HMI; omega), hown3, hbel3⟩
              case measure => have := unhide HMI; simp [intOf]
            · have hke : k = 8 := by omega
              rw [hke, ← unhide HP] at hown
              have hi7 : (7 : Int) - (k : Int) = -1 := by omega
              have hlp : (padR s.data.toList).length = q + 8 := by
                have := hown.1
                rw [ncells_length] at this
                omega
              have HLP := hide hlp
              rw [hi7]
              clear hke hi7 hlp HP
              go_wp2
              go_ret
              exact ⟨_, rfl, by rw [unhide HLP]; exact hown, hbel⟩
end Go.Proofs.YtanfolfopalbeaaDoor
namespace Go.Proofs.YtanfolfopalbeaaDoor
open Go.RowKit

/-- A number that uint64 holds is not wrapped. -/
theorem u64w (x : Int) (h : 0 ≤ x ∧ x < 18446744073709551616) : IntKind.u64.wrap x = x := by rw [IntKind.wrap_u64]; omega
/-- Words as cells of 64 bits. -/
def ucells (l : List Nat) : List Value := l.map fun (n : Nat) => Value.int .u64 (n : Int)
theorem ucells_append (a b : List Nat) : ucells (a ++ b) = ucells a ++ ucells b := by simp [ucells]
theorem ucells_length (a : List Nat) : (ucells a).length = a.length := by simp [ucells]
theorem ucells_at (l : List Nat) (j : Nat) (h : j < l.length) : (ucells l)[j]? = some (.int .u64 ((l.getD j 0 : Nat) : Int)) := by
  simp [ucells, List.getD, List.getElem?_eq_getElem h]

theorem sch_take (l : List Nat) (n k : Nat) (h : k ≤ n) : (sch n l).take (l.length + k) = sch k l := by
  induction n with
  | zero =>
    obtain rfl : k = 0 := by omega
    rw [List.take_of_length_le (by rw [sch_length]; omega)]
  | succ n ih =>
    by_cases he : k = n + 1
    · subst he
      rw [List.take_of_length_le (by rw [sch_length]; omega)]
    · show (sch n l ++ [_]).take _ = _
      rw [List.take_append_of_le_length (by rw [sch_length]; omega)]
      exact ih (by omega)
theorem sch_take_low (l : List Nat) (n k : Nat) (h : k ≤ l.length) : (sch n l).take k = l.take k := by
  have h0 := sch_take l n 0 (by omega)
  rw [Nat.add_zero] at h0
  have : ((sch n l).take l.length).take k = (sch n l).take k := by rw [List.take_take, Nat.min_eq_left h]
  rw [← this, h0]; rfl
/-- The first t words of a block's schedule. -/
def spr (bl : List UInt8) (t : Nat) : List Nat := (sch 48 (be16 bl)).take t
theorem spr_length (bl : List UInt8) (t : Nat) (h : t ≤ 64) : (spr bl t).length = t := by
  unfold spr
  rw [List.length_take, sch_length, be16_length]; omega
theorem spr_lt (bl : List UInt8) (t : Nat) : ∀ x ∈ spr bl t, x < 4294967296 := fun x hx => sch_lt 48 _ (be16_lt bl) x (List.mem_of_mem_take hx)
theorem spr_end (bl : List UInt8) : spr bl 64 = sch 48 (be16 bl) := by
  unfold spr
  rw [List.take_of_length_le (by rw [sch_length, be16_length]; omega)]
theorem be4 (a b c d : UInt8) : beN [a, b, c, d] = ((a.toNat * 256 + b.toNat) * 256 + c.toNat) * 256 + d.toNat := by simp [beN]
theorem spr_low (bl : List UInt8) (t : Nat) (h : t < 16) (hb : bl.length = 64) : spr bl (t + 1) = spr bl t ++ [(((bl.getD (4 * t) 0).toNat * 256 + (bl.getD (4 * t + 1) 0).toNat) * 256 + (bl.getD (4 * t + 2) 0).toNat) * 256 + (bl.getD (4 * t + 3) 0).toNat] := by
  unfold spr
  rw [sch_take_low _ _ _ (by rw [be16_length]; omega), sch_take_low _ _ _ (by rw [be16_length]; omega)]
  rw [List.take_succ_eq_append_getElem (by rw [be16_length]; omega), ← be4]
  congr 2
  unfold be16
  rw [List.getElem_map, List.getElem_range]
  congr 1
  have hd : ∀ j, j < 64 → bl[j]? = some (bl.getD j 0) := fun j hj => by rw [List.getD, List.getElem?_eq_getElem (by omega)]; rfl
  apply List.ext_getElem?
  intro i
  rw [List.getElem?_take, List.getElem?_drop]
  match i with
  | 0 => simpa using hd (4 * t) (by omega)
  | 1 => simpa using hd (4 * t + 1) (by omega)
  | 2 => simpa using hd (4 * t + 2) (by omega)
  | 3 => simpa using hd (4 * t + 3) (by omega)
  | i + 4 => simp; omega
theorem spr_high (bl : List UInt8) (t : Nat) (h : 16 ≤ t) (h2 : t < 64) : spr bl (t + 1) = spr bl t ++ [ext (spr bl t)] := by
  have hl := be16_length bl
  unfold spr
  have e1 := sch_take (be16 bl) 48 (t - 16) (by omega)
  have e2 := sch_take (be16 bl) 48 (t - 16 + 1) (by omega)
  rw [hl, show 16 + (t - 16) = t by omega] at e1
  rw [hl, show 16 + (t - 16 + 1) = t + 1 by omega] at e2
  rw [e1, e2]
  rfl

theorem xor3_bits64 (a b c : Nat) (ha : a < 4294967296) (hb : b < 4294967296) (hc : c < 4294967296) : bits BinOp.xor IntKind.u64 (bits BinOp.xor IntKind.u64 (a : Int) (b : Int)) (c : Int) = ((a ^^^ b ^^^ c : Nat) : Int) := by
  rw [u64_xor_nat a b (by omega) (by omega), u64_xor_nat _ c (by have := xor_lt32 _ _ ha hb; omega) (by omega)]
theorem sg0_bits64 (x : Nat) (hx : x < 4294967296) : bits BinOp.xor IntKind.u64 (bits BinOp.xor IntKind.u64 ((rot x 7 : Nat) : Int) ((rot x 18 : Nat) : Int)) ((x : Int) / 8) = ((sg0 x : Nat) : Int) := by
  rw [show (x : Int) / 8 = ((x / 8 : Nat) : Int) by omega]
  exact xor3_bits64 _ _ _ (rot_lt _ _ hx) (rot_lt _ _ hx) (by omega)
theorem sg1_bits64 (x : Nat) (hx : x < 4294967296) : bits BinOp.xor IntKind.u64 (bits BinOp.xor IntKind.u64 ((rot x 17 : Nat) : Int) ((rot x 19 : Nat) : Int)) ((x : Int) / 1024) = ((sg1 x : Nat) : Int) := by
  rw [show (x : Int) / 1024 = ((x / 1024 : Nat) : Int) by omega]
  exact xor3_bits64 _ _ _ (rot_lt _ _ hx) (rot_lt _ _ hx) (by omega)

theorem ext_cells (m : List Nat) (y0 y1 x7 x16 : Nat) : ucells m ++ [.int .u64 (((y0 : Int) + y1 + x7 + x16).tmod 4294967296)] = ucells (m ++ [(y1 + x7 + y0 + x16) % 4294967296]) := by
  rw [ucells_append, Int.tmod_eq_emod_of_nonneg (by omega)]
  congr 1
  simp only [ucells, List.map_cons, List.map_nil]
  exact congrArg (fun x => [Value.int .u64 x]) (by omega)

/-- 64 bytes as numbers, in a block from an offset on. -/
def NumsAt (w : World) (g off : Nat) (bl : List UInt8) : Prop := g < w.heap.size ∧ ∀ j, j < 64 → w.cell? ⟨g, off + j, none⟩ = some (.int .u64 ((bl.getD j 0).toNat : Int))
theorem NumsAt.below {w w' : World} {g off B : Nat} {bl : List UInt8} (h : NumsAt w g off bl) (hb : Below B w w') (hB : w.heap.size ≤ B) : NumsAt w' g off bl :=
  ⟨Nat.lt_of_lt_of_le h.1 hb.size, fun j hj => by rw [hb.cell (p := ⟨g, off + j, none⟩) (Nat.lt_of_lt_of_le h.1 hB)]; exact h.2 j hj⟩

set_option maxRecDepth 100000 in
set_option maxHeartbeats 1600000 in
theorem spread_any (g off cap : Nat) (bl : List UInt8) (w : World) (hb : bl.length = 64) (hN : NumsAt w g off bl) :
    Calls Tryd.prog 91 #[.slice (some ⟨g, off, none⟩) 64 cap] w fun e w' => ∃ v, e = .returned v ∧ w'.ownsRow w.heap.size 22 1 v 64 (ucells (sch 48 (be16 bl))) ∧ Below w.heap.size w w' := by
  obtain ⟨i0, hi, hz0, hz1, hz2⟩ := info_parts info_u64
  have HN := hide hN
  have hglt := hN.1
  clear hN
  go_enter Tryd.func91, Tryd.ntmps91
  go_wp2
  go_loopw [3, 4] (fun v i wr => ∃ t : Nat, t ≤ 64 ∧ i = .int .i64 t ∧ wr.ownsRow w.heap.size 22 1 v t (ucells (spr bl t)) ∧ Below w.heap.size w wr) (fun _ i _ => 64 - (intOf i).toNat)
  case atStart => exact ⟨0, Nat.zero_le _, rfl, World.ownsRow_nil _ _ _ _, Below.refl _ _⟩
  case round =>
    obtain ⟨t, ht, rfl, hown, hbel⟩ := hrel
    have hszr := hbel.size
    by_cases hlt : t < 64
    · by_cases h16 : t < 16
      · have hnr := ((unhide HN).below hbel (Nat.le_refl _)).2
        have n0 := hnr (4 * t) (by omega)
        have n1 := hnr (4 * t + 1) (by omega)
        have n2 := hnr (4 * t + 2) (by omega)
        have n3 := hnr (4 * t + 3) (by omega)
        have HS := hide (spr_low bl t h16 hb)
        have b0 := (bl.getD (4 * t) 0).toNat_lt
        have b1 := (bl.getD (4 * t + 1) 0).toNat_lt
        have b2 := (bl.getD (4 * t + 2) 0).toNat_lt
        have b3 := (bl.getD (4 * t + 3) 0).toNat_lt
        generalize (bl.getD (4 * t) 0).toNat = x0 at *
        generalize (bl.getD (4 * t + 1) 0).toNat = x1 at *
        generalize (bl.getD (4 * t + 2) 0).toNat = x2 at *
        generalize (bl.getD (4 * t + 3) 0).toNat = x3 at *
        clear hnr
        have hd1 : decide ((t : Int) < 64) = true := by simp; omega
        have hd2 : decide ((t : Int) < 16) = true := by simp; omega
        have i0' : (0 : Int) ≤ 4 * (t : Int) := by omega
        have i0'' : 4 * (t : Int) < 64 := by omega
        have i1' : (0 : Int) ≤ 4 * (t : Int) + 1 := by omega
        have i1'' : 4 * (t : Int) + 1 < 64 := by omega
        have i2' : (0 : Int) ≤ 4 * (t : Int) + 2 := by omega
        have i2'' : 4 * (t : Int) + 2 < 64 := by omega
        have i3' : (0 : Int) ≤ 4 * (t : Int) + 3 := by omega
        have i3'' : 4 * (t : Int) + 3 < 64 := by omega
        have w0 : IntKind.i64.wrap (4 * (t : Int)) = 4 * (t : Int) := i64w _ (by omega)
        have w1 : IntKind.i64.wrap (4 * (t : Int) + 1) = 4 * (t : Int) + 1 := i64w _ (by omega)
        have w2 : IntKind.i64.wrap (4 * (t : Int) + 2) = 4 * (t : Int) + 2 := i64w _ (by omega)
        have w3 : IntKind.i64.wrap (4 * (t : Int) + 3) = 4 * (t : Int) + 3 := i64w _ (by omega)
        have m0 : (4 * (t : Int)).toNat = 4 * t := by omega
        have m1 : (4 * (t : Int) + 1).toNat = 4 * t + 1 := by omega
        have m2 : (4 * (t : Int) + 2).toNat = 4 * t + 2 := by omega
        have m3 : (4 * (t : Int) + 3).toNat = 4 * t + 3 := by omega
        have y0 : IntKind.u64.wrap ((x0 : Int) * 256) = (x0 : Int) * 256 := u64w _ (by omega)
        have y1 : IntKind.u64.wrap ((x0 : Int) * 256 + x1) = (x0 : Int) * 256 + x1 := u64w _ (by omega)
        have y2 : IntKind.u64.wrap (((x0 : Int) * 256 + x1) * 256) = ((x0 : Int) * 256 + x1) * 256 := u64w _ (by omega)
        have y3 : IntKind.u64.wrap (((x0 : Int) * 256 + x1) * 256 + x2) = ((x0 : Int) * 256 + x1) * 256 + x2 := u64w _ (by omega)
        have y4 : IntKind.u64.wrap ((((x0 : Int) * 256 + x1) * 256 + x2) * 256) = (((x0 : Int) * 256 + x1) * 256 + x2) * 256 := u64w _ (by omega)
        have y5 : IntKind.u64.wrap ((((x0 : Int) * 256 + x1) * 256 + x2) * 256 + x3) = (((x0 : Int) * 256 + x1) * 256 + x2) * 256 + x3 := u64w _ (by omega)
        have HV : ∀ k, u3.ownBlock = some k → w.heap.size ≤ k := own_row_ge hown
        have hvg : u3.ownBlock ≠ some g := fun h => by have := HV _ h; omega
        go_wp2
        go_region_held3 (fun w' => w'.cell? ⟨g, off + 4 * t, none⟩ = some (.int .u64 (x0 : Int)) ∧ w'.cell? ⟨g, off + (4 * t + 1), none⟩ = some (.int .u64 (x1 : Int)) ∧ w'.cell? ⟨g, off + (4 * t + 2), none⟩ = some (.int .u64 (x2 : Int)) ∧ w'.cell? ⟨g, off + (4 * t + 3), none⟩ = some (.int .u64 (x3 : Int)))
          (first | go_keep | (go_split_ands; refine ⟨?_, ?_, ?_, ?_⟩ <;> (rw [hgrow.cell_far _ (by simp; omega) (Ne.symm hvg)]; assumption)))
          ((refine step_append_lies _ (by rfl) _ _ _ (by rfl) w.heap.size 22 i0 (.int .u64 0) 1 8 Tryd.underlying103 hi hz0 hz1 hz2 rfl (by omega) u3 t (ucells (spr bl t)) (by rfl) ((hown.alloc _).drew) ⟨wr.heap.size, 0, none⟩ 1 1 [.int .u64 ((((x0 : Int) * 256 + x1) * 256 + x2) * 256 + x3)] (by rfl) (by rfl) (World.news_of_block (cs := #[.int .u64 ((((x0 : Int) * 256 + x1) * 256 + x2) * 256 + x3)]) (t := 22) (fr := (0, 0)) (heap_alloc_new wr _)) (by simp [Value.oneCell']) (by omega) (by unfold maxLen; omega) (by omega) (by simp; omega) (wr.heap.size + 1) (by simp) ?_; intro gg cap wn hown1 hgrow hat hgl))
        have hbel1 : Below w.heap.size w wn := ((hbel.alloc hszr _).drew).grown hgrow (by simp; omega) HV
        have e1 : ucells (spr bl t) ++ [.int .u64 ((((x0 : Int) * 256 + x1) * 256 + x2) * 256 + x3)] = ucells (spr bl (t + 1)) := by
          rw [unhide HS, ucells_append]
          rfl
        rw [e1] at hown1
        clear hgrow e1 hown hbel y0 y1 y2 y3 y4 y5 w0 w1 w2 w3 m0 m1 m2 m3
        go_wp2
        go_roundw
        case rel => exact ⟨t + 1, by omega, by go_num, hown1, hbel1⟩
        case measure => simp [intOf]; omega
      · have hml := spr_length bl t ht
        have hmx := spr_lt bl t
        have HS := hide (spr_high bl t (by omega) hlt)
        generalize spr bl t = m at *
        obtain ⟨gv, cv, rfl, hgv, hgl⟩ := hown.form (by omega)
        have hcl := hown.cells (g := gv) rfl
        have get : ∀ j, j < t → wr.cell? ⟨gv, j, none⟩ = some (.int .u64 ((m.getD j 0 : Nat) : Int)) := fun j hj => by
          have := hcl j _ (ucells_at m j (by omega))
          rwa [Addr.add_lit, Nat.zero_add] at this
        have c15 := get (t - 15) (by omega)
        have c2 := get (t - 2) (by omega)
        have c7 := get (t - 7) (by omega)
        have c16 := get (t - 16) (by omega)
        have b15 := getD_lt m hmx (t - 15)
        have b2 := getD_lt m hmx (t - 2)
        have b7 := getD_lt m hmx (t - 7)
        have b16 := getD_lt m hmx (t - 16)
        have HE := hide (show ext m = (sg1 (m.getD (t - 2) 0) + m.getD (t - 7) 0 + sg0 (m.getD (t - 15) 0) + m.getD (t - 16) 0) % 4294967296 by unfold ext; rw [hml])
        generalize m.getD (t - 15) 0 = x15 at *
        generalize m.getD (t - 2) 0 = x2 at *
        generalize m.getD (t - 7) 0 = x7 at *
        generalize m.getD (t - 16) 0 = x16 at *
        clear get hmx hcl
        have hs0 := sg0_bits64 x15 b15
        have hs1 := sg1_bits64 x2 b2
        have l0 := sg0_lt x15 b15
        have l1 := sg1_lt x2 b2
        have hd1 : decide ((t : Int) < 64) = true := by simp; omega
        have hd2 : decide ((t : Int) < 16) = false := by simp; omega
        go_wp2_with fail
        refine (by_any x15 7 _ b15 (by omega)).mono ?_
        rintro e wa ⟨rfl, rfl⟩
        go_wp2_with fail
        refine (by_any x15 18 _ b15 (by omega)).mono ?_
        rintro e wb ⟨rfl, rfl⟩
        go_wp2_with fail
        refine (by_any x2 17 _ b2 (by omega)).mono ?_
        rintro e wc ⟨rfl, rfl⟩
        go_wp2_with fail
        refine (by_any x2 19 _ b2 (by omega)).mono ?_
        rintro e wd ⟨rfl, rfl⟩
        go_wp2_with fail
        generalize sg0 x15 = y0 at *
        generalize sg1 x2 = y1 at *
        obtain ⟨p7, hp7⟩ : ∃ p : Nat, p = t - 7 := ⟨_, rfl⟩
        obtain ⟨p16, hp16⟩ : ∃ p : Nat, p = t - 16 := ⟨_, rfl⟩
        rw [← hp7] at c7
        rw [← hp16] at c16
        have z7 : (t : Int) - 7 = (p7 : Int) := by omega
        have z16 : (t : Int) - 16 = (p16 : Int) := by omega
        have v7 : IntKind.i64.wrap (p7 : Int) = (p7 : Int) := i64w _ (by omega)
        have v16 : IntKind.i64.wrap (p16 : Int) = (p16 : Int) := i64w _ (by omega)
        have j7 : (p7 : Int) < (t : Int) := by omega
        have j16 : (p16 : Int) < (t : Int) := by omega
        have i7 : (0 : Int) ≤ (p7 : Int) := by omega
        have i16 : (0 : Int) ≤ (p16 : Int) := by omega
        clear hp7 hp16
        have q1 : IntKind.u64.wrap ((y0 : Int) + y1) = (y0 : Int) + y1 := u64w _ (by omega)
        have q2 : IntKind.u64.wrap ((y0 : Int) + y1 + x7) = (y0 : Int) + y1 + x7 := u64w _ (by omega)
        have q3 : IntKind.u64.wrap ((y0 : Int) + y1 + x7 + x16) = (y0 : Int) + y1 + x7 + x16 := u64w _ (by omega)
        have hbr : gv < wd.heap.size := hgl
        go_region_held3 (fun w' => w'.cell? ⟨gv, p7, none⟩ = some (.int .u64 (x7 : Int)) ∧ w'.cell? ⟨gv, p16, none⟩ = some (.int .u64 (x16 : Int)))
          (first | go_keep | (go_split_ands; refine ⟨?_, ?_⟩ <;> (rw [hkeep gv _ (by simp; omega) (fun _ => by omega)]; assumption)))
          ((refine step_append_keeps _ (by rfl) _ _ _ (by rfl) w.heap.size 22 i0 (.int .u64 0) 1 8 Tryd.underlying103 hi hz0 hz1 hz2 rfl (by omega) (.slice (some ⟨gv, 0, none⟩) t cv) t (ucells m) (by rfl) ((hown.alloc _).drew) ⟨wd.heap.size, 0, none⟩ 1 1 [.int .u64 (((y0 : Int) + y1 + x7 + x16).tmod 4294967296)] (by rfl) (by rfl) (World.news_of_block (cs := #[.int .u64 (((y0 : Int) + y1 + x7 + x16).tmod 4294967296)]) (t := 22) (fr := (0, 0)) (heap_alloc_new wd _)) (by simp [Value.oneCell']) (by omega) (by unfold maxLen; omega) (by omega) (by simp; omega) ?_; intro gg cap wn hown1 hgrow hat hgl2 hkeep))
        have hbel1 : Below w.heap.size w wn := ((hbel.alloc hszr _).drew).grown hgrow (by simp; omega) (own_row_ge hown)
        have e1 : ucells m ++ [.int .u64 (((y0 : Int) + y1 + x7 + x16).tmod 4294967296)] = ucells (spr bl (t + 1)) := by
          rw [unhide HS, unhide HE]
          exact ext_cells m y0 y1 x7 x16
        rw [e1] at hown1
        clear hgrow e1 hown hbel hkeep
        go_wp2
        go_roundw
        case rel => exact ⟨t + 1, by omega, by go_num, hown1, hbel1⟩
        case measure => simp [intOf]; omega
    · have hte : t = 64 := by omega
      subst hte
      rw [spr_end] at hown
      go_wp2
      go_ret
      exact ⟨_, rfl, hown, hbel⟩
end Go.Proofs.YtanfolfopalbeaaDoor
namespace Go.Proofs.YtanfolfopalbeaaDoor
open Go.RowKit

/-- Block g holds the words l, each in 64 bits. -/
def URow (w : World) (g : Nat) (ty : TypeId) (l : List Nat) : Prop := w.heap[g]? = some (.cells (ucells l).toArray ty (0, 0))
theorem URow.cell {w : World} {g : Nat} {ty : TypeId} {l : List Nat} (h : URow w g ty l) (j : Nat) (hj : j < l.length) : w.cell? ⟨g, j, none⟩ = some (.int .u64 ((l.getD j 0 : Nat) : Int)) := by
  rw [cell_of_row w g j _ _ _ h, List.getElem?_toArray]
  exact ucells_at l j hj
theorem URow.free {w : World} {g : Nat} {ty : TypeId} {l : List Nat} (h : URow w g ty l) (j : Nat) : w.frozen? ⟨g, j, none⟩ = false := frozen_of_row w g j _ _ h
theorem URow.set {w : World} {g : Nat} {ty : TypeId} {l : List Nat} (h : URow w g ty l) (j x : Nat) : URow (w.setCell ⟨g, j, none⟩ (.int .u64 (x : Int))) g ty (l.set j x) := by
  unfold URow
  rw [heap_setCell_same w g j _ _ _ h]
  congr 2
  apply Array.ext'
  simp [ucells, List.map_set]
theorem URow.other {w : World} {g g' j : Nat} {ty : TypeId} {l : List Nat} {v : Value} (h : URow w g ty l) (hg : g ≠ g') : URow (w.setCell ⟨g', j, none⟩ v) g ty l := by
  unfold URow
  rw [heap_setCell_other _ _ _ _ (by exact hg)]
  exact h
theorem URow.lt {w : World} {g : Nat} {ty : TypeId} {l : List Nat} (h : URow w g ty l) : g < w.heap.size := lt_of_block h
theorem URow.below {w w' : World} {B g : Nat} {ty : TypeId} {l : List Nat} (h : URow w g ty l) (hb : Below B w w') (hB : w.heap.size ≤ B) : URow w' g ty l := by
  unfold URow
  rw [hb.block g (Nat.lt_of_lt_of_le h.lt hB)]
  exact h
theorem URow.drewN {w : World} {g : Nat} {ty : TypeId} {l : List Nat} (h : URow w g ty l) (n : Nat) : URow (w.drewN n) g ty l := by
  unfold URow
  rw [heap_drewN']
  exact h
theorem ucells_size (l : List Nat) : (ucells l).toArray.size = l.length := by simp [ucells]
theorem ucells_one (l : List Nat) : (ucells l).toArray.all (·.oneCell') = true := by
  rw [Array.all_eq_true']
  intro v hv
  simp only [ucells, List.mem_toArray, List.mem_map] at hv
  obtain ⟨n, _, rfl⟩ := hv
  rfl
theorem info_u8w : (Tryd.prog.info? 23).map (·.size) = some 8 := by kernel_rfl
theorem z8_cells : (ucells z8).toArray = #[.int .u64 0, .int .u64 0, .int .u64 0, .int .u64 0, .int .u64 0, .int .u64 0, .int .u64 0, .int .u64 0] := rfl

theorem bg0_bits64 (x : Nat) (hx : x < 4294967296) : bits BinOp.xor IntKind.u64 (bits BinOp.xor IntKind.u64 ((rot x 2 : Nat) : Int) ((rot x 13 : Nat) : Int)) ((rot x 22 : Nat) : Int) = ((bg0 x : Nat) : Int) :=
  xor3_bits64 _ _ _ (rot_lt _ _ hx) (rot_lt _ _ hx) (rot_lt _ _ hx)
theorem bg1_bits64 (x : Nat) (hx : x < 4294967296) : bits BinOp.xor IntKind.u64 (bits BinOp.xor IntKind.u64 ((rot x 6 : Nat) : Int) ((rot x 11 : Nat) : Int)) ((rot x 25 : Nat) : Int) = ((bg1 x : Nat) : Int) :=
  xor3_bits64 _ _ _ (rot_lt _ _ hx) (rot_lt _ _ hx) (rot_lt _ _ hx)
theorem ch_or (e f g : Nat) (he : e < 4294967296) : (e &&& f) ||| ((4294967295 - e) &&& g) = chf e f g := by
  unfold chf
  apply Nat.eq_of_testBit_eq
  intro i
  have h := Nat.testBit_two_pow_sub_succ (x := e) (n := 32) (by omega) i
  rw [show 2 ^ 32 - (e + 1) = 4294967295 - e by omega] at h
  rw [Nat.testBit_or, Nat.testBit_xor, Nat.testBit_and, Nat.testBit_and, h]
  cases e.testBit i <;> simp
theorem maj_or (a b c : Nat) : (a &&& b) ||| (a &&& c) ||| (b &&& c) = maj a b c := by
  unfold maj
  apply Nat.eq_of_testBit_eq
  intro i
  simp only [Nat.testBit_or, Nat.testBit_xor, Nat.testBit_and]
  cases a.testBit i <;> cases b.testBit i <;> cases c.testBit i <;> rfl
theorem ch_bits64 (e f g : Nat) (he : e < 4294967296) (hf : f < 4294967296) (hg : g < 4294967296) :
    bits BinOp.or IntKind.u64 (bits BinOp.and IntKind.u64 (e : Int) (f : Int)) (bits BinOp.and IntKind.u64 (4294967295 - (e : Int)) (g : Int)) = ((chf e f g : Nat) : Int) := by
  rw [show (4294967295 - (e : Int)) = ((4294967295 - e : Nat) : Int) by omega, u64_and_nat e f (by omega) (by omega), u64_and_nat _ g (by omega) (by omega), u64_or_nat _ _ (by have := and_lt32 e f he; omega) (by have := and_lt32 (4294967295 - e) g (by omega); omega), ch_or e f g he]
theorem maj_bits64 (a b c : Nat) (ha : a < 4294967296) (hb : b < 4294967296) (hc : c < 4294967296) :
    bits BinOp.or IntKind.u64 (bits BinOp.or IntKind.u64 (bits BinOp.and IntKind.u64 (a : Int) (b : Int)) (bits BinOp.and IntKind.u64 (a : Int) (c : Int))) (bits BinOp.and IntKind.u64 (b : Int) (c : Int)) = ((maj a b c : Nat) : Int) := by
  have h1 := and_lt32 a b ha
  have h2 := and_lt32 a c ha
  have h3 := and_lt32 b c hb
  have h4 : (a &&& b) ||| (a &&& c) < 2 ^ 32 := Nat.or_lt_two_pow (by omega) (by omega)
  rw [u64_and_nat a b (by omega) (by omega), u64_and_nat a c (by omega) (by omega), u64_and_nat b c (by omega) (by omega), u64_or_nat _ _ (by omega) (by omega), u64_or_nat _ _ (by omega) (by omega), maj_or]

/-- Words moved up by one, from place i + 1 on. -/
def mvd (l : List Nat) (i : Nat) : List Nat := l.take (i + 1) ++ (l.drop i).take (7 - i)
theorem mvd_step (l : List Nat) (hl : l.length = 8) (i : Nat) (h : i < 7) : mvd l i = (mvd l (i + 1)).set (i + 1) (l.getD i 0) := by
  match l, hl with
  | [a, b, c, d, e, f, g, h], _ =>
    have : i = 0 ∨ i = 1 ∨ i = 2 ∨ i = 3 ∨ i = 4 ∨ i = 5 ∨ i = 6 := by omega
    rcases this with rfl | rfl | rfl | rfl | rfl | rfl | rfl <;> rfl
theorem mvd_length (l : List Nat) (hl : l.length = 8) (i : Nat) (h : i ≤ 7) : (mvd l i).length = 8 := by
  unfold mvd
  rw [List.length_append, List.length_take, List.length_take, List.length_drop]; omega
theorem mvd_low (l : List Nat) (hl : l.length = 8) (i : Nat) (h : i < 7) : (mvd l (i + 1)).getD i 0 = l.getD i 0 := by
  unfold mvd
  rw [List.getD, List.getD, List.getElem?_append_left (by rw [List.length_take]; omega), List.getElem?_take_of_lt (by omega)]

/-- The words of a state, as cells of 64 bits. -/
def S8.c64 (s : S8) : Array Value := (ucells s.words).toArray
theorem words_length (s : S8) : s.words.length = 8 := rfl
/-- The reference's own tables. -/
def tabV : Value := .agg (ucells (Hl ++ Kl)).toArray
theorem tab_at (t : Nat) (h : t < 64) : (Hl ++ Kl).getD (8 + t) 0 = Kl.getD t 0 := by
  rw [List.getD, List.getD, List.getElem?_append_right (by show 8 ≤ 8 + t; omega), show 8 + t - Hl.length = t by show 8 + t - 8 = t; omega]
theorem tab_length : (Hl ++ Kl).length = 72 := rfl
theorem heap_own {w : World} {base : Nat} {e : TypeId} {v : Value} {n : Nat} {xs : List Value} {w' : World} (h : w.ownsRow base e 1 v n xs) (hs : ∀ k, k < w.heap.size → w'.heap[k]? = w.heap[k]?) : w'.ownsRow base e 1 v n xs := by
  refine ⟨h.1, ?_⟩
  rcases h.2 with hn | ⟨g, cap, cur, rfl, hb, hgg, rest⟩
  · exact .inl hn
  · exact .inr ⟨g, cap, cur, rfl, hb, by rw [hs g (lt_of_block hgg)]; exact hgg, rest⟩

theorem URow.cells8 {w : World} {G : Nat} {ty : TypeId} {a b c d e f g h : Nat} (hr : URow w G ty [a, b, c, d, e, f, g, h]) : w.cell? ⟨G, 0, none⟩ = some (.int .u64 (a : Int)) ∧ w.cell? ⟨G, 1, none⟩ = some (.int .u64 (b : Int)) ∧ w.cell? ⟨G, 2, none⟩ = some (.int .u64 (c : Int)) ∧ w.cell? ⟨G, 3, none⟩ = some (.int .u64 (d : Int)) ∧ w.cell? ⟨G, 4, none⟩ = some (.int .u64 (e : Int)) ∧ w.cell? ⟨G, 5, none⟩ = some (.int .u64 (f : Int)) ∧ w.cell? ⟨G, 6, none⟩ = some (.int .u64 (g : Int)) ∧ w.cell? ⟨G, 7, none⟩ = some (.int .u64 (h : Int)) :=
  ⟨hr.cell 0 (by simp), hr.cell 1 (by simp), hr.cell 2 (by simp), hr.cell 3 (by simp), hr.cell 4 (by simp), hr.cell 5 (by simp), hr.cell 6 (by simp), hr.cell 7 (by simp)⟩
/-- Two lists of eight words put together, as far as k. -/
def pls (v h : List Nat) (k : Nat) : List Nat := (List.range 8).map fun j => if j < k then (v.getD j 0 + h.getD j 0) % 4294967296 else v.getD j 0
theorem pls_length (v h : List Nat) (k : Nat) : (pls v h k).length = 8 := by simp [pls]
theorem pls_get (v h : List Nat) (k j : Nat) (hj : j < 8) : (pls v h k)[j]? = some (if j < k then (v.getD j 0 + h.getD j 0) % 4294967296 else v.getD j 0) := by
  unfold pls
  rw [List.getElem?_map, List.getElem?_range hj, Option.map_some]
theorem pls_at (v h : List Nat) (k : Nat) (hk : k < 8) : (pls v h k).getD k 0 = v.getD k 0 := by
  rw [List.getD, pls_get v h k k hk, Option.getD_some, if_neg (by omega)]
theorem pls_step (v h : List Nat) (k : Nat) (hk : k < 8) : pls v h (k + 1) = (pls v h k).set k ((v.getD k 0 + h.getD k 0) % 4294967296) := by
  apply List.ext_getElem?
  intro j
  by_cases hj : j < 8
  · rw [pls_get v h _ j hj]
    by_cases he : k = j
    · subst he
      rw [List.getElem?_set_self (by rw [pls_length]; exact hk), if_pos (by omega)]
    · rw [List.getElem?_set_ne he, pls_get v h _ j hj]
      by_cases h1 : j < k
      · rw [if_pos h1, if_pos (by omega)]
      · rw [if_neg h1, if_neg (by omega)]
  · rw [List.getElem?_eq_none (by rw [pls_length]; omega), List.getElem?_eq_none (by rw [List.length_set, pls_length]; omega)]
theorem pls_zero (v h : List Nat) (hv : v.length = 8) : pls v h 0 = v := by
  apply List.ext_getElem?
  intro j
  by_cases hj : j < 8
  · rw [pls_get v h _ j hj, if_neg (by omega), List.getD, List.getElem?_eq_getElem (by omega)]
    rfl
  · rw [List.getElem?_eq_none (by rw [pls_length]; omega), List.getElem?_eq_none (by omega)]
theorem pls_end (s r : S8) : pls r.words s.words 8 = (s.plus r).words := by
  obtain ⟨a, b, c, d, e, f, g, h⟩ := s
  obtain ⟨a', b', c', d', e', f', g', h'⟩ := r
  simp only [S8.plus, S8.words, Nat.add_comm a, Nat.add_comm b, Nat.add_comm c, Nat.add_comm d, Nat.add_comm e, Nat.add_comm f, Nat.add_comm g, Nat.add_comm h]
  rfl
theorem stp_flat (a b c d e f g h k x : Nat) : stp ⟨a, b, c, d, e, f, g, h⟩ k x = ⟨(h + bg1 e + chf e f g + k + x + bg0 a + maj a b c) % 4294967296, a, b, c, (d + (h + bg1 e + chf e f g + k + x)) % 4294967296, e, f, g⟩ := by
  simp only [stp, t1, t2, S8.mk.injEq, true_and, and_true]
  constructor
  · omega
  · omega
theorem by_i (x : Nat) (k : Int) (w : World) (hx : x < 4294967296) (h0 : 0 ≤ k) (hk : k ≤ 32) :
    Calls Tryd.prog 92 #[.int .u64 x, .int .u64 k] w fun e w' => e = .returned (.int .u64 (rot x k.toNat)) ∧ w' = w := by
  obtain ⟨n, rfl⟩ := Int.eq_ofNat_of_zero_le h0
  exact by_any x n w hx (by omega)
/-- What stands still while a block is taken in. -/
structure BlkW (w : World) (tb w0 : List Nat) (gw : Nat) (ws : List Nat) (wr : World) : Prop where
  cw : ∀ j, j < 64 → wr.cell? ⟨gw, j, none⟩ = some (.int .u64 ((ws.getD j 0 : Nat) : Int))
  rt : URow wr w.heap.size 26 tb
  rh : URow wr (w.heap.size + 1) 23 w0
  rz : URow wr (w.heap.size + 1 + 1) 23 z8
  hb : Below w.heap.size w wr
theorem BlkW.set {w : World} {tb w0 : List Nat} {gw : Nat} {ws : List Nat} {wr : World} (h : BlkW w tb w0 gw ws wr) {H : Nat} (h1 : gw ≠ H) (h2 : w.heap.size + 1 + 1 < H) (j : Nat) (v : Value) : BlkW w tb w0 gw ws (wr.setCell ⟨H, j, none⟩ v) := by
  refine ⟨fun i hi => ?_, h.rt.other (by omega), h.rh.other (by omega), h.rz.other (by omega), h.hb.setCell (by show w.heap.size ≤ H; omega) v⟩
  rw [World.cell?_of_block (heap_setCell_other _ _ _ _ (by exact h1))]
  exact h.cw i hi
theorem BlkW.drewN {w : World} {tb w0 : List Nat} {gw : Nat} {ws : List Nat} {wr : World} (h : BlkW w tb w0 gw ws wr) (n : Nat) : BlkW w tb w0 gw ws (wr.drewN n) := by
  refine ⟨fun i hi => ?_, h.rt.drewN n, h.rh.drewN n, h.rz.drewN n, below_drewN h.hb n⟩
  rw [World.cell?_of_block (show (wr.drewN n).heap[gw]? = wr.heap[gw]? by rw [heap_drewN'])]
  exact h.cw i hi
theorem BlkW.drew {w : World} {tb w0 : List Nat} {gw : Nat} {ws : List Nat} {wr : World} (h : BlkW w tb w0 gw ws wr) : BlkW w tb w0 gw ws wr.drew := by
  refine ⟨fun i hi => ?_, h.rt, h.rh, h.rz, h.hb.drew⟩
  rw [World.cell?_of_block (show wr.drew.heap[gw]? = wr.heap[gw]? from rfl)]
  exact h.cw i hi

set_option maxRecDepth 100000 in
set_option maxHeartbeats 1600000 in
theorem rblock_any (s : S8) (g off cap : Nat) (bl : List UInt8) (w : World) (hs : s.ok) (hb : bl.length = 64) (hN : NumsAt w g off bl) :
    Calls Tryd.prog 54 #[tabV, .agg s.c64, .slice (some ⟨g, off, none⟩) 64 cap] w fun e w' => e = .returned (.agg (blk s bl).c64) ∧ Below w.heap.size w w' := by
  have HSok := hide hs
  have HN := hide hN
  have HB := hide hb
  clear hs hN hb
  have hc8 : s.c64.size = 8 := ucells_size s.words
  unfold tabV
  have htl := tab_length
  generalize hte : Hl ++ Kl = tb at htl ⊢
  have HTE := hide hte
  clear hte
  have hw0 : s.words.length = 8 := rfl
  unfold S8.c64
  generalize hwe : s.words = w0 at hw0 ⊢
  have HWE := hide hwe
  clear hwe
  go_enter Tryd.func54, Tryd.ntmps54
  go_wp2_with fail
  rw [← z8_cells]
  obtain ⟨g0, g1, g2⟩ := heap3 w (.cells (ucells tb).toArray 26) (.cells (ucells w0).toArray 23) (.cells (ucells z8).toArray 23)
  have hb3 : Below w.heap.size w (((w.alloc (.cells (ucells tb).toArray 26)).alloc (.cells (ucells w0).toArray 23)).alloc (.cells (ucells z8).toArray 23)) := (((Below.refl _ _).alloc (Nat.le_refl _) _).alloc (by simp) _).alloc (by simp; omega) _
  generalize (((w.alloc (.cells (ucells tb).toArray 26)).alloc (.cells (ucells w0).toArray 23)).alloc (.cells (ucells z8).toArray 23)) = W3 at g0 g1 g2 hb3 ⊢
  refine (spread_any g off cap bl W3 (unhide HB) ((unhide HN).below hb3 (Nat.le_refl _))).mono ?_
  rintro e w1 ⟨v, rfl, hown, hb1⟩
  have hz3 := hb3.size
  have k0 : URow w1 w.heap.size 26 tb := by unfold URow; rw [hb1.block _ (lt_of_block g0)]; exact g0
  have k1 : URow w1 (w.heap.size + 1) 23 w0 := by unfold URow; rw [hb1.block _ (lt_of_block g1)]; exact g1
  have k2 : URow w1 (w.heap.size + 1 + 1) 23 z8 := by unfold URow; rw [hb1.block _ (lt_of_block g2)]; exact g2
  have hl3 : w.heap.size + 1 + 1 < W3.heap.size := lt_of_block g2
  have hbel := hb3.trans (hb1.mono hz3)
  have hsz1 := hbel.size
  have hsz2 := hb1.size
  obtain ⟨gw, cw, rfl, hgw, hgwl⟩ := hown.form (by omega)
  have hwl : (sch 48 (be16 bl)).length = 64 := by rw [sch_length, be16_length]
  have hwx := sch_lt 48 _ (be16_lt bl)
  have HBK := hide (show blk s bl = s.plus (rnds (sch 48 (be16 bl)) 64 s) from rfl)
  generalize sch 48 (be16 bl) = ws at hown hwl hwx HBK
  have hcw : ∀ j, j < 64 → w1.cell? ⟨gw, j, none⟩ = some (.int .u64 ((ws.getD j 0 : Nat) : Int)) := fun j hj => by
    have := hown.cells (g := gw) rfl j _ (ucells_at ws j (by omega))
    rwa [Addr.add_lit, Nat.zero_add] at this
  have K1 := hide k1
  have HCW := hide hcw
  have HWX := hide hwx
  have HK0 := hide k0
  have HK2 := hide k2
  have HBEL := hide hbel
  have G1 := hide (show (Tryd.prog.info? 23).map (·.size) = some (ucells w0).toArray.size by rw [ucells_size, hw0]; exact info_u8w)
  have G2 := hide (show (ucells z8).toArray.size = (ucells w0).toArray.size by rw [ucells_size, ucells_size, hw0]; rfl)
  clear hown hb1 hb3 g0 g1 g2 k0 k1 k2 hwx hcw hbel
  go_wp2_with (first | ((with_reducible refine at_load ?_); refine wpList_load_row rfl 23 _ rfl (w.heap.size + 1) rfl 23 (ucells w0).toArray (0, 0) _ (unhide K1) Tryd.underlying23 rfl (unhide G1) ?_) | ((with_reducible refine at_store ?_); refine wpList_store_row rfl 23 _ _ rfl w1.heap.size (ucells w0).toArray rfl rfl 23 _ (heap_alloc_new w1 _) (unhide G1) (unhide G2) (ucells_one w0) ?_))
  have hbw : BlkW w tb w0 gw ws ((w1.alloc (.cells (ucells z8).toArray 23)).setRow w1.heap.size (ucells w0).toArray) := by
    refine ⟨fun j hj => ?_, ?_, ?_, ?_, below_row ((unhide HBEL).alloc hsz1 _) hsz1 _⟩
    · rw [World.cell?_of_block (heap_put_old w1 _ _ _ gw (by omega))]; exact unhide HCW j hj
    · unfold URow; rw [heap_put_old w1 _ _ _ _ (by omega)]; exact unhide HK0
    · unfold URow; rw [heap_put_old w1 _ _ _ _ (by omega)]; exact unhide K1
    · unfold URow; rw [heap_put_old w1 _ _ _ _ (by omega)]; exact unhide HK2
  have hv0 : URow ((w1.alloc (.cells (ucells z8).toArray 23)).setRow w1.heap.size (ucells w0).toArray) w1.heap.size 23 w0 := heap_put_new _ _ _ _
  have hH1 : gw ≠ w1.heap.size := by omega
  have hH2 : w.heap.size + 1 + 1 < w1.heap.size := by omega
  rw [← z8_cells]
  generalize ((w1.alloc (.cells (ucells z8).toArray 23)).setRow w1.heap.size (ucells w0).toArray) = W5 at hbw hv0 ⊢
  clear HK2 K1 HK0 HCW HBEL
  generalize w1.heap.size = H at *
  rw [← unhide HWE] at hv0
  go_loopw [9] (fun i wr => ∃ t : Nat, t ≤ 64 ∧ i = .int .i64 t ∧ URow wr H 23 (rnds ws t s).words ∧ BlkW w tb w0 gw ws wr) (fun i _ => 64 - (intOf i).toNat)
  case atStart => exact ⟨0, by omega, rfl, hv0, hbw⟩
  case round =>
    obtain ⟨t, ht, rfl, hv, hbw⟩ := hrel
    have hok := rnds_ok ws t _ (unhide HSok)
    by_cases hlt : t < 64
    · have HRS := hide (rnds_succ ws t s)
      generalize rnds ws t s = r at hv hok HRS
      obtain ⟨xa, xb, xc, xd, xe, xf, xg, xh⟩ := r
      have hv : URow wr H 23 [xa, xb, xc, xd, xe, xf, xg, xh] := hv
      obtain ⟨c0, c1, c2, c3, c4, c5, c6, c7⟩ := hv.cells8
      obtain ⟨ba, bb, bc, bd, be, bf, bg, bh⟩ := hok
      dsimp only at ba bb bc bd be bf bg bh
      have bk := Kl_lt t
      have bx := getD_lt ws (unhide HWX) t
      have FK : ∀ w', BlkW w tb w0 gw ws w' → w'.cell? ⟨w.heap.size, 8 + t, none⟩ = some (.int .u64 ((Kl.getD t 0 : Nat) : Int)) ∧ w'.cell? ⟨gw, t, none⟩ = some (.int .u64 ((ws.getD t 0 : Nat) : Int)) := fun w' hw' => by
        have ck := hw'.rt.cell (8 + t) (by omega)
        rw [← unhide HTE, tab_at t hlt] at ck
        exact ⟨ck, hw'.cw t hlt⟩
      have HFK := hide FK
      clear FK
      generalize Kl.getD t 0 = kt at *
      generalize ws.getD t 0 = xt at *
      have h0 := bg0_bits64 xa ba
      have h1 := bg1_bits64 xe be
      have l0 := bg0_lt xa ba
      have l1 := bg1_lt xe be
      have h2 := ch_bits64 xe xf xg be bf bg
      have h3 := maj_bits64 xa xb xc ba bb bc
      have l2 := chf_lt xe xf xg be
      have l3 := maj_lt xa xb xc ba bb
      have HST := hide (stp_flat xa xb xc xd xe xf xg xh kt xt)
      generalize bg0 xa = s0 at *
      generalize bg1 xe = s1 at *
      generalize chf xe xf xg = pk at *
      generalize maj xa xb xc = mj at *
      have q1 : IntKind.u64.wrap ((xh : Int) + s1) = (xh : Int) + s1 := u64w _ (by omega)
      have q2 : IntKind.u64.wrap ((xh : Int) + s1 + pk) = (xh : Int) + s1 + pk := u64w _ (by omega)
      have q3 : IntKind.u64.wrap ((xh : Int) + s1 + pk + kt) = (xh : Int) + s1 + pk + kt := u64w _ (by omega)
      have q4 : IntKind.u64.wrap ((xh : Int) + s1 + pk + kt + xt) = (xh : Int) + s1 + pk + kt + xt := u64w _ (by omega)
      have hd : decide ((t : Int) < 64) = true := by simp; omega
      have it : (t : Int) < 64 := by omega
      have it0 : (0 : Int) ≤ (t : Int) := by omega
      go_wp2_with fail
      go_quiet (first | (go_at_call 92; refine Calls.quiet_of_same (by_i xe _ _ be ?_ ?_) <;> decide))
      replace hv := hv.drewN nq
      replace hbw := hbw.drewN nq
      clear c0 c1 c2 c3 c4 c5 c6 c7
      generalize wr.drewN nq = wb at hv hbw ⊢
      obtain ⟨ck, cx⟩ := unhide HFK _ hbw
      obtain ⟨c0, c1, c2, c3, c4, c5, c6, c7⟩ := hv.cells8
      go_wp2_with fail
      go_quiet (fail)
      replace hv := hv.drewN nq
      replace hbw := hbw.drewN nq
      clear c0 c1 c2 c3 c4 c5 c6 c7 ck cx
      generalize wb.drewN nq = wc at hv hbw ⊢
      obtain ⟨c0, c1, c2, c3, c4, c5, c6, c7⟩ := hv.cells8
      go_wp2_with fail
      go_quiet (first | (go_at_call 92; refine Calls.quiet_of_same (by_i xa _ _ ba ?_ ?_) <;> decide))
      replace hv := hv.drewN nq
      replace hbw := hbw.drewN nq
      clear c0 c1 c2 c3 c4 c5 c6 c7
      generalize wc.drewN nq = wd at hv hbw ⊢
      obtain ⟨c0, c1, c2, c3, c4, c5, c6, c7⟩ := hv.cells8
      go_wp2_with fail
      clear c0 c1 c2 c3 c4 c5 c6 c7
      go_loopw [15] (fun i wq => ∃ k : Nat, k ≤ 7 ∧ i = .int .i64 k ∧ URow wq H 23 (mvd [xa, xb, xc, xd, xe, xf, xg, xh] k) ∧ BlkW w tb w0 gw ws wq) (fun i _ => (intOf i).toNat)
      case atStart => exact ⟨7, by omega, rfl, hv, hbw⟩
      case round =>
        obtain ⟨k, hk, rfl, hv2, hbw2⟩ := hrel
        clear hv hbw h0 h1 h2 h3 q1 q2 q3 q4
        by_cases hk0 : 0 < k
        · obtain ⟨j, rfl⟩ : ∃ j, k = j + 1 := ⟨k - 1, by omega⟩
          have cj := hv2.cell j (by rw [mvd_length _ rfl _ hk]; omega)
          rw [mvd_low _ rfl j (by omega)] at cj
          have cj1 := hv2.cell (j + 1) (by rw [mvd_length _ rfl _ hk]; omega)
          have fj1 := hv2.free (j + 1)
          have HM := hide (mvd_step [xa, xb, xc, xd, xe, xf, xg, xh] rfl j (by omega))
          generalize [xa, xb, xc, xd, xe, xf, xg, xh].getD j 0 = y at cj HM
          have hd1 : decide ((0 : Int) < ((j + 1 : Nat) : Int)) = true := by simp
          go_wp2
          go_roundw
          case rel => exact ⟨j, by omega, by go_num, by rw [unhide HM]; exact hv2.set (j + 1) y, hbw2.set hH1 hH2 _ _⟩
          case measure => simp [intOf]
        · obtain rfl : k = 0 := by omega
          have hv2 : URow wr H 23 [xa, xa, xb, xc, xd, xe, xf, xg] := hv2
          obtain ⟨c0, c1, c2, c3, c4, c5, c6, c7⟩ := hv2.cells8
          have f0 := hv2.free 0
          have f4 := hv2.free 4
          clear c1 c2 c3 c5 c6 c7
          go_wp2
          go_roundw
          case rel =>
            have e4 : ((xd : Int) + ((xh : Int) + s1 + pk + kt + xt)) % 4294967296 = (((xd + (xh + s1 + pk + kt + xt)) % 4294967296 : Nat) : Int) := by omega
            have e0 : ((xh : Int) + s1 + pk + kt + xt + s0 + mj) % 4294967296 = (((xh + s1 + pk + kt + xt + s0 + mj) % 4294967296 : Nat) : Int) := by omega
            rw [e4, e0]
            refine ⟨t + 1, by omega, by go_num, ?_, (hbw2.set hH1 hH2 _ _).set hH1 hH2 _ _⟩
            rw [unhide HRS, unhide HST]
            exact (hv2.set 4 _).set 0 _
          case measure => simp [intOf]; omega
    · obtain rfl : t = 64 := by omega
      have hok := rnds_ok ws 64 _ (unhide HSok)
      have HE := hide (pls_end s (rnds ws 64 s))
      rw [← unhide HBK] at HE
      have hrl := words_length (rnds ws 64 s)
      have hrx := words_lt _ hok
      generalize (rnds ws 64 s).words = rw8 at hv hrl hrx HE
      rw [unhide HWE] at HE
      have hsx := words_lt s (unhide HSok)
      rw [unhide HWE] at hsx
      have HRX := hide hrx
      have HSX := hide hsx
      clear hrx hsx hok
      go_wp2
      go_loopw [16] (fun i wq => ∃ k : Nat, k ≤ 8 ∧ i = .int .i64 k ∧ URow wq H 23 (pls rw8 w0 k) ∧ BlkW w tb w0 gw ws wq) (fun i _ => 8 - (intOf i).toNat)
      case atStart => exact ⟨0, by omega, rfl, by rw [pls_zero _ _ hrl]; exact hv, hbw⟩
      case round =>
        obtain ⟨k, hk, rfl, hv2, hbw2⟩ := hrel
        by_cases hlt : k < 8
        · have cv := hv2.cell k (by rw [pls_length]; omega)
          rw [pls_at _ _ k hlt] at cv
          have fv := hv2.free k
          have ch := hbw2.rh.cell k (by omega)
          have bv := getD_lt rw8 (unhide HRX) k
          have bh := getD_lt w0 (unhide HSX) k
          have HP := hide (pls_step rw8 w0 k hlt)
          generalize rw8.getD k 0 = y at *
          generalize w0.getD k 0 = z at *
          have ik : (k : Int) < 8 := by omega
          have ik0 : (0 : Int) ≤ (k : Int) := by omega
          have q1 : IntKind.u64.wrap ((y : Int) + z) = (y : Int) + z := u64w _ (by omega)
          have hd1 : decide ((k : Int) < 8) = true := by simp; omega
          go_wp2
          go_region
          go_wp2
          go_roundw
          case rel =>
            have e4 : ((y : Int) + z) % 4294967296 = (((y + z) % 4294967296 : Nat) : Int) := by omega
            rw [e4]
            refine ⟨k + 1, by omega, by go_num, ?_, (hbw2.set hH1 hH2 _ _).drew⟩
            rw [unhide HP]
            exact hv2.set k _
          case measure => simp [intOf]; omega
        · obtain rfl : k = 8 := by omega
          rw [unhide HE] at hv2
          have hfl := words_length (blk s bl)
          generalize hfe : (blk s bl).words = fin at hv2 hfl
          have HF := hide hfe
          clear hfe
          have K1 : Hid (wr.heap[H]? = some (.cells (ucells fin).toArray 23 (0, 0))) := hide hv2
          have K2 : Hid (wr.heap[w.heap.size + 1 + 1]? = some (.cells (ucells z8).toArray 23 (0, 0))) := hide hbw2.rz
          have K3 := hide (show (Tryd.prog.info? 23).map (·.size) = some (ucells fin).toArray.size by rw [ucells_size, hfl]; exact info_u8w)
          have K4 := hide (show (ucells z8).toArray.size = (ucells fin).toArray.size by rw [ucells_size, ucells_size, hfl]; rfl)
          have hbel := hbw2.hb
          clear hv2 hbw2 hbw hv G1 G2
          go_wp2_with (first | ((with_reducible refine at_load ?_); refine wpList_load_row rfl 23 _ rfl H rfl 23 (ucells fin).toArray (0, 0) _ (unhide K1) Tryd.underlying23 rfl (unhide K3) ?_) | ((with_reducible refine at_store ?_); refine wpList_store_row rfl 23 _ _ rfl (w.heap.size + 1 + 1) (ucells fin).toArray rfl rfl 23 _ (unhide K2) (unhide K3) (unhide K4) (ucells_one fin) ?_))
          refine bodyPost_ret (v := .agg (ucells fin).toArray) ?_ rfl ⟨by rw [unhide HF], below_row hbel (by omega) _⟩
          exact results_cell_row Tryd.results54 _ _ (w.heap.size + 1 + 1) 23 _ (0, 0) _ rfl (setRow_heap _ _ _ _ _ _ (unhide K2)) Tryd.underlying23 rfl (unhide K3)
end Go.Proofs.YtanfolfopalbeaaDoor
namespace Go.Proofs.YtanfolfopalbeaaDoor
open Go.RowKit

/-- The number that digits to the base 65536 tell, the lowest first. -/
def val : List Nat → Nat
  | [] => 0
  | d :: r => d + 65536 * val r
theorem val_append (a b : List Nat) : val (a ++ b) = val a + 65536 ^ a.length * val b := by
  induction a with
  | nil => simp [val]
  | cons d r ih =>
    show d + 65536 * val (r ++ b) = d + 65536 * val r + 65536 ^ (r.length + 1) * val b
    rw [ih, Nat.mul_add, Nat.pow_succ, Nat.mul_comm (65536 ^ r.length) 65536, Nat.mul_assoc, Nat.add_assoc]
theorem val_take_succ (l : List Nat) (i : Nat) (h : i < l.length) : val (l.take (i + 1)) = val (l.take i) + 65536 ^ i * l.getD i 0 := by
  rw [List.take_succ_eq_append_getElem h, val_append, List.length_take, Nat.min_eq_left (by omega)]
  simp [val, List.getD, List.getElem?_eq_getElem h]
theorem val_take_le (l : List Nat) (i : Nat) : val (l.take i) ≤ val l := by
  have h := val_append (l.take i) (l.drop i)
  rw [List.take_append_drop] at h
  omega
theorem val_lt (l : List Nat) (h : ∀ x ∈ l, x < 65536) : val l < 65536 ^ l.length := by
  induction l with
  | nil => simp [val]
  | cons d r ih =>
    have h1 := ih fun x hx => h x (List.mem_cons_of_mem _ hx)
    have h2 := h d List.mem_cons_self
    show d + 65536 * val r < 65536 ^ (r.length + 1)
    rw [Nat.pow_succ]
    omega
theorem val_zeros (n : Nat) : val (List.replicate n 0) = 0 := by
  induction n with
  | zero => rfl
  | succ n ih => rw [List.replicate_succ]; show 0 + 65536 * val (List.replicate n 0) = 0; rw [ih]
theorem val_split (l : List Nat) (c : Nat) (h : c < l.length) : val l = val (l.take c) + 65536 ^ c * (l.getD c 0 + 65536 * val (l.drop (c + 1))) := by
  have h1 := val_append (l.take c) (l.drop c)
  rw [List.take_append_drop, List.length_take, Nat.min_eq_left (by omega), List.drop_eq_getElem_cons h] at h1
  rw [h1]
  simp [val, List.getD, List.getElem?_eq_getElem h]
theorem val_set (l : List Nat) (c x : Nat) (h : c < l.length) : val (l.set c x) + 65536 ^ c * l.getD c 0 = val l + 65536 ^ c * x := by
  rw [val_split l c h, val_split (l.set c x) c (by simpa using h), List.take_set_of_le (Nat.le_refl _), List.drop_set_of_lt (by omega)]
  rw [show (l.set c x).getD c 0 = x by simp [List.getD, h], Nat.mul_add, Nat.mul_add]
  omega
theorem val_digit_le (l : List Nat) (c : Nat) (h : c < l.length) : 65536 ^ c * l.getD c 0 ≤ val l := by
  rw [val_split l c h, Nat.mul_add]
  omega
theorem val_cut (l : List Nat) (i : Nat) : val l = val (l.take i) + 65536 ^ i * (l.getD i 0 + 65536 * val (l.drop (i + 1))) := by
  by_cases h : i < l.length
  · exact val_split l i h
  · rw [List.take_of_length_le (by omega), List.drop_eq_nil_of_le (by omega)]
    simp [List.getD, List.getElem?_eq_none (show l.length ≤ i by omega), val]
theorem val_take_lt (l : List Nat) (h : ∀ x ∈ l, x < 65536) (i : Nat) : val (l.take i) < 65536 ^ i := by
  have h1 := val_lt (l.take i) fun x hx => h x (List.mem_of_mem_take hx)
  exact Nat.lt_of_lt_of_le h1 (Nat.pow_le_pow_right (by decide) (by rw [List.length_take]; omega))
theorem part_lt (P s t x y D : Nat) (hs : s < P) (h : x < y) : s + P * (x + 65536 * D) < t + P * (y + 65536 * D) := by
  have h1 : P * (x + 65536 * D) + P ≤ P * (y + 65536 * D) := by
    rw [← Nat.mul_succ]
    exact Nat.mul_le_mul_left _ (by omega)
  omega
/-- The first digit from above in which they part tells which is greater. -/
theorem val_part (a b : List Nat) (ha : ∀ x ∈ a, x < 65536) (hb : ∀ x ∈ b, x < 65536) (i : Nat) (hs : val (a.drop (i + 1)) = val (b.drop (i + 1))) (hn : a.getD i 0 ≠ b.getD i 0) : decide (val b < val a) = decide (b.getD i 0 < a.getD i 0) := by
  have h1 := val_cut a i
  have h2 := val_cut b i
  have h3 := val_take_lt a ha i
  have h4 := val_take_lt b hb i
  rw [hs] at h1
  by_cases h : b.getD i 0 < a.getD i 0
  · have := part_lt _ _ (val (a.take i)) _ _ (val (b.drop (i + 1))) h4 h
    rw [decide_eq_true h, decide_eq_true (by rw [h1, h2]; exact this)]
  · have := part_lt _ _ (val (b.take i)) _ _ (val (b.drop (i + 1))) h3 (show a.getD i 0 < b.getD i 0 by omega)
    rw [decide_eq_false h, decide_eq_false (by rw [h1, h2]; omega)]
theorem val_same (a b : List Nat) (i : Nat) (hs : val (a.drop (i + 1)) = val (b.drop (i + 1))) (hn : a.getD i 0 = b.getD i 0) : val (a.drop i) = val (b.drop i) := by
  have key : ∀ l : List Nat, val (l.drop i) = l.getD i 0 + 65536 * val (l.drop (i + 1)) := fun l => by
    by_cases h : i < l.length
    · rw [List.drop_eq_getElem_cons h]
      simp [val, List.getD, List.getElem?_eq_getElem h]
    · rw [List.drop_eq_nil_of_le (by omega), List.drop_eq_nil_of_le (by omega)]
      simp [List.getD, List.getElem?_eq_none (show l.length ≤ i by omega), val]
  rw [key, key, hs, hn]

/-- Numbers as cells. -/
def icells (l : List Nat) : List Value := l.map fun (x : Nat) => Value.int .i64 (x : Int)
theorem icells_at (l : List Nat) (j : Nat) (h : j < l.length) : (icells l)[j]? = some (.int .i64 ((l.getD j 0 : Nat) : Int)) := by
  simp [icells, List.getD, List.getElem?_eq_getElem h]
/-- A slice that reads as these numbers. -/
def Ints (w : World) (v : Value) (l : List Nat) : Prop := ∃ g cap, v = .slice (some ⟨g, 0, none⟩) l.length cap ∧ l.length ≤ cap ∧ cap ≤ maxLen ∧ g < w.heap.size ∧ ∀ j, j < l.length → w.cell? ⟨g, j, none⟩ = some (.int .i64 ((l.getD j 0 : Nat) : Int))
theorem Ints.below {w w' : World} {v : Value} {l : List Nat} {B : Nat} (h : Ints w v l) (hb : Below B w w') (hB : w.heap.size ≤ B) : Ints w' v l := by
  obtain ⟨g, cap, rfl, h1, h2, h3, h4⟩ := h
  refine ⟨g, cap, rfl, h1, h2, Nat.lt_of_lt_of_le h3 hb.size, fun j hj => ?_⟩
  rw [World.cell?_of_block (hb.block g (by omega))]
  exact h4 j hj
theorem Ints.drew {w : World} {v : Value} {l : List Nat} (h : Ints w v l) : Ints w.drew v l := h

set_option maxRecDepth 100000 in
set_option maxHeartbeats 400000 in
theorem most_any (a b : Nat) (w : World) : Calls Tryd.prog 115 #[.int .i64 a, .int .i64 b] w fun e w' => e = .returned (.int .i64 ((max a b : Nat) : Int)) ∧ w' = w := by
  go_enter Tryd.func115, Tryd.ntmps115
  by_cases h : b < a
  · have hd : decide ((b : Int) < (a : Int)) = true := by simp; omega
    go_wp2
    go_ret
    exact ⟨ret_int (by omega), rfl⟩
  · have hd : decide ((b : Int) < (a : Int)) = false := by simp; omega
    go_wp2
    go_ret
    exact ⟨ret_int (by omega), rfl⟩

set_option maxRecDepth 100000 in
set_option maxHeartbeats 400000 in
theorem at_any (v : Value) (l : List Nat) (i : Nat) (w : World) (hv : Ints w v l) : Calls Tryd.prog 116 #[v, .int .i64 i] w fun e w' => e = .returned (.int .i64 ((l.getD i 0 : Nat) : Int)) ∧ w' = w := by
  obtain ⟨g, cap, rfl, h1, h2, h3, h4⟩ := hv
  by_cases h : i < l.length
  · have hc := h4 i h
    have i1 : (i : Int) < (l.length : Int) := by omega
    have hd : decide ((i : Int) < (l.length : Int)) = true := by simp; omega
    generalize l.getD i 0 = x at hc ⊢
    generalize l.length = n at *
    clear h4
    go_enter Tryd.func116, Tryd.ntmps116
    go_wp2
    go_ret
    exact ⟨rfl, rfl⟩
  · have hd : decide ((i : Int) < (l.length : Int)) = false := by simp; omega
    have e : l.getD i 0 = 0 := by simp [List.getD, List.getElem?_eq_none (show l.length ≤ i by omega)]
    rw [e]
    generalize l.length = n at *
    clear h4
    go_enter Tryd.func116, Tryd.ntmps116
    go_wp2
    go_ret
    exact ⟨rfl, rfl⟩

def limb (n : Nat) : List Nat := [n % 65536, n / 65536 % 65536, n / 65536 / 65536]
theorem limb_val (n : Nat) : val (limb n) = n := by simp [limb, val]; omega
theorem limb_lt (n : Nat) (h : n < 281474976710656) : ∀ x ∈ limb n, x < 65536 := by
  intro x hx
  simp only [limb, List.mem_cons, List.not_mem_nil, or_false] at hx
  rcases hx with rfl | rfl | rfl <;> omega

set_option maxRecDepth 100000 in
set_option maxHeartbeats 400000 in
theorem limbs_any (n : Nat) (w : World) (hn : n < 281474976710656) : Calls Tryd.prog 85 #[.int .i64 n] w fun e w' => ∃ v, e = .returned v ∧ Ints w' v (limb n) ∧ Below w.heap.size w w' := by
  go_enter Tryd.func85, Tryd.ntmps85
  go_wp2
  go_ret
  refine ⟨_, rfl, ⟨w.heap.size, 3, rfl, by simp [limb], by unfold maxLen; omega, by simp, fun j hj => ?_⟩, (Below.refl _ _).alloc (Nat.le_refl _) _⟩
  have hj3 : j < 3 := hj
  rw [cell_of_row _ _ _ _ _ _ (heap_alloc_new w _)]
  have : j = 0 ∨ j = 1 ∨ j = 2 := by omega
  rcases this with rfl | rfl | rfl <;> simp [limb]

/-- Is a number a prime? (as far as k) -/
def prk (n : Nat) : Nat → Bool
  | 0 => true
  | k + 1 => prk n k && (n % (k + 2) != 0)
def prm (n : Nat) : Bool := prk n (n - 2)
theorem prk_mono (n : Nat) : ∀ b, prk n b = true → ∀ a, a ≤ b → prk n a = true := by
  intro b
  induction b with
  | zero => intro h a ha; rw [show a = 0 by omega]; exact h
  | succ b ih =>
    intro h a ha
    by_cases e : a = b + 1
    · rw [e]; exact h
    · have h2 : (prk n b && (n % (b + 2) != 0)) = true := h
      rw [Bool.and_eq_true] at h2
      exact ih h2.1 a (by omega)
set_option maxRecDepth 100000 in
set_option maxHeartbeats 400000 in
theorem prime_any (n : Nat) (w : World) (hn : 2 ≤ n) (hn2 : n ≤ 1000) : Calls Tryd.prog 49 #[.int .i64 n] w fun e w' => e = .returned (.bool (prm n)) ∧ w' = w := by
  go_enter Tryd.func49, Tryd.ntmps49
  go_wp2
  go_loopw [3] (fun v wr => ∃ k : Nat, k + 2 ≤ n ∧ v = .int .i64 ((k + 2 : Nat) : Int) ∧ prk n k = true ∧ wr = w) (fun v _ => n - (intOf v).toNat)
  case atStart => exact ⟨0, by omega, rfl, rfl, rfl⟩
  case round =>
    obtain ⟨k, hk, rfl, hp, rfl⟩ := hrel
    by_cases h : k + 2 < n
    · have hd : decide (((k + 2 : Nat) : Int) < (n : Int)) = true := by simp; omega
      have e1 : Int.tmod (n : Int) ((k + 2 : Nat) : Int) = ((n % (k + 2) : Nat) : Int) := by rw [Int.tmod_eq_emod_of_nonneg (by omega)]; omega
      have hz : ((k + 2 : Nat) : Int) ≠ 0 := by omega
      have hk1 : prk n (k + 1) = (prk n k && (n % (k + 2) != 0)) := rfl
      generalize n % (k + 2) = r at *
      generalize hke : k + 2 = q at *
      by_cases hr : r = 0
      · have hd2 : decide ((r : Int) = 0) = true := by simp; omega
        have HP := hide (show prm n = false by
          cases hc : prm n with
          | false => rfl
          | true =>
            have := prk_mono n (n - 2) hc (k + 1) (by omega)
            rw [hk1, hr] at this
            simp at this)
        go_wp2
        go_ret
        exact ⟨by rw [unhide HP]; rfl, rfl⟩
      · have hd2 : decide ((r : Int) = 0) = false := by simp; omega
        have HP := hide (show prk n (k + 1) = true by rw [hk1, hp]; simp; omega)
        go_wp2
        exact ⟨⟨k + 1, by omega, by rw [show k + 1 + 2 = q + 1 by omega]; go_num, unhide HP, trivial⟩, by simp [intOf]; omega⟩
    · have hd : decide (((k + 2 : Nat) : Int) < (n : Int)) = false := by simp; omega
      have hd3 : decide ((1 : Int) < (n : Int)) = true := by simp; omega
      have HP := hide (show prm n = true by unfold prm; rw [show n - 2 = k by omega]; exact hp)
      go_wp2
      go_ret
      exact ⟨by rw [unhide HP]; rfl, rfl⟩

set_option maxRecDepth 100000 in
set_option maxHeartbeats 800000 in
theorem above_any (v u : Value) (a b : List Nat) (w : World) (hv : Ints w v a) (hu : Ints w u b) (ha : ∀ x ∈ a, x < 65536) (hb : ∀ x ∈ b, x < 65536) (hal : a.length ≤ 1000) (hbl : b.length ≤ 1000) :
    Calls Tryd.prog 87 #[v, u] w fun e w' => e = .returned (.bool (decide (val b < val a))) ∧ w' = w := by
  have HV := hide hv
  have HU := hide hu
  have HA := hide ha
  have HB := hide hb
  obtain ⟨g, cap, rfl, h1, h2, h3, h4⟩ := hv
  obtain ⟨g', cap', rfl, h1', h2', h3', h4'⟩ := hu
  clear h4 h4' ha hb h1 h2 h1' h2'
  have HN := hide (show val (a.drop (max a.length b.length)) = val (b.drop (max a.length b.length)) by rw [List.drop_eq_nil_of_le (by omega), List.drop_eq_nil_of_le (by omega)])
  have hmx : max a.length b.length ≤ 1000 := by omega
  have mo := most_any a.length b.length
  generalize max a.length b.length = m at mo HN hmx
  generalize a.length = n at *
  generalize b.length = n' at *
  go_enter Tryd.func87, Tryd.ntmps87
  go_wp2_with (go_at_call 115; refine (mo _).mono ?_; rintro e w1 ⟨rfl, rfl⟩)
  go_loopw [5] (fun v wr => ∃ k : Nat, k ≤ 1000 ∧ v = .int .i64 ((k : Int) - 1) ∧ Hid (val (a.drop k) = val (b.drop k)) ∧ wr = w1) (fun v _ => (intOf v + 1).toNat)
  case atStart => exact ⟨m, hmx, rfl, HN, rfl⟩
  case round =>
    obtain ⟨k, hk, rfl, HE, rfl⟩ := hrel
    by_cases h : 1 ≤ k
    · obtain ⟨i, rfl⟩ : ∃ i, k = i + 1 := ⟨k - 1, by omega⟩
      rw [show ((i + 1 : Nat) : Int) - 1 = (i : Int) by omega]
      have hd : decide ((0 : Int) ≤ (i : Int)) = true := by simp
      have ax := at_any _ a i _ (unhide HV)
      have ay := at_any _ b i _ (unhide HU)
      have HS := hide (val_same a b i (unhide HE))
      have HP := hide (val_part a b (unhide HA) (unhide HB) i (unhide HE))
      generalize a.getD i 0 = x at ax HS HP
      generalize b.getD i 0 = y at ay HS HP
      by_cases hxy : x = y
      · have hd2 : decide ((x : Int) = (y : Int)) = true := by simp; omega
        go_wp2_with (go_at_call 116; first | ((with_reducible refine ax.mono ?_); rintro e wa ⟨rfl, he⟩; cases he) | ((with_reducible refine ay.mono ?_); rintro e wa ⟨rfl, he⟩; cases he))
        exact ⟨⟨i, by omega, rfl, hide (unhide HS hxy), trivial⟩, by simp [intOf]⟩
      · have hd2 : decide ((x : Int) = (y : Int)) = false := by simp; omega
        go_wp2_with (go_at_call 116; first | ((with_reducible refine ax.mono ?_); rintro e wa ⟨rfl, he⟩; cases he) | ((with_reducible refine ay.mono ?_); rintro e wa ⟨rfl, he⟩; cases he))
        go_ret
        exact ⟨by rw [unhide HP hxy]; rfl, rfl⟩
    · have hd : decide ((0 : Int) ≤ ((k : Nat) : Int) - 1) = false := by simp; omega
      have HE2 := hide (show decide (val b < val a) = false by
        have h0 : k = 0 := by omega
        have h9 := unhide HE
        rw [h0, List.drop_zero, List.drop_zero] at h9
        rw [h9]
        simp)
      go_wp2
      go_ret
      exact ⟨by rw [unhide HE2]; rfl, rfl⟩
end Go.Proofs.YtanfolfopalbeaaDoor
namespace Go.Proofs.YtanfolfopalbeaaDoor
open Go.RowKit

/-- Block g holds these numbers. -/
def IBlk (w : World) (g : Nat) (l : List Nat) : Prop := w.heap[g]? = some (.cells (icells l).toArray 3 (0, 0))
theorem IBlk.cell {w : World} {g : Nat} {l : List Nat} (h : IBlk w g l) (j : Nat) (hj : j < l.length) : w.cell? ⟨g, j, none⟩ = some (.int .i64 ((l.getD j 0 : Nat) : Int)) := by
  rw [cell_of_row w g j _ _ _ h, List.getElem?_toArray]
  exact icells_at l j hj
theorem IBlk.free {w : World} {g : Nat} {l : List Nat} (h : IBlk w g l) (j : Nat) : w.frozen? ⟨g, j, none⟩ = false := frozen_of_row w g j _ _ h
theorem IBlk.set {w : World} {g : Nat} {l : List Nat} (h : IBlk w g l) (j x : Nat) : IBlk (w.setCell ⟨g, j, none⟩ (.int .i64 (x : Int))) g (l.set j x) := by
  unfold IBlk
  rw [heap_setCell_same w g j _ _ _ h]
  congr 2
  apply Array.ext'
  simp [icells, List.map_set]
theorem IBlk.lt {w : World} {g : Nat} {l : List Nat} (h : IBlk w g l) : g < w.heap.size := lt_of_block h
theorem IBlk.below {w w' : World} {B g : Nat} {l : List Nat} (h : IBlk w g l) (hb : Below B w w') (hB : w.heap.size ≤ B) : IBlk w' g l := by
  unfold IBlk
  rw [hb.block g (Nat.lt_of_lt_of_le h.lt hB)]
  exact h
theorem IBlk.ints {w : World} {g n : Nat} {l : List Nat} (h : IBlk w g l) (hn : l.length = n) (hm : n ≤ maxLen) : Ints w (.slice (some ⟨g, 0, none⟩) n n) l := by
  subst hn
  exact ⟨g, l.length, rfl, Nat.le_refl _, hm, h.lt, h.cell⟩
theorem info_int : (Tryd.prog.info? 3).map (fun i => (i.zero, i.size, i.bytes)) = some (some (.int .i64 0), 1, 8) := by kernel_rfl
theorem getD_digits (l : List Nat) (h : ∀ x ∈ l, x < 65536) (j : Nat) : l.getD j 0 < 65536 := by
  rw [List.getD]
  cases hc : l[j]? with
  | none => simp
  | some x => simpa using h x (List.mem_of_getElem? hc)

theorem own_full {w : World} {base : Nat} {e : TypeId} {g n : Nat} {xs : List Value} (h : w.ownsRow base e 1 (.slice (some ⟨g, 0, none⟩) n n) n xs) : w.heap[g]? = some (.cells xs.toArray e (0, 0)) := by
  rcases h.2 with ⟨h1, _⟩ | ⟨g1, cap, cur, hv, _, hg, _, _, h5, h6⟩
  · cases h1
  · injection hv with e1 _ e3
    injection e1 with e1
    injection e1 with e1
    subst e1 e3
    rw [List.take_of_length_le (by rw [Array.length_toList]; omega)] at h6
    rw [hg, ← h6]
theorem made_zeros (n : Nat) : (madeCells #[Value.int IntKind.i64 0] n).toList = icells (List.replicate n 0) := by
  unfold madeCells icells
  apply List.ext_getElem?
  intro j
  by_cases hj : j < n
  · simp [hj]
    rw [Nat.mod_one]
    rfl
  · simp [hj]
/-- One step of the product: what is added at digit i + k. -/
theorem prod_step (A B X y z i k : Nat) (h : X = A + 65536 ^ i * y * B) : X + 65536 ^ (i + k) * (y * z) = A + 65536 ^ i * y * (B + 65536 ^ k * z) := by
  rw [h, Nat.mul_add, Nat.pow_add, Nat.add_assoc]
  congr 1
  congr 1
  simp only [Nat.mul_assoc, Nat.mul_comm, Nat.mul_left_comm]
theorem prod_le (A P y B' Bv Va T : Nat) (h1 : B' ≤ Bv) (h2 : T = A + P * y) (h3 : T ≤ Va) : A * Bv + P * y * B' ≤ Va * Bv := by
  have h4 : P * y * B' ≤ P * y * Bv := Nat.mul_le_mul_left _ h1
  have h5 : T * Bv ≤ Va * Bv := Nat.mul_le_mul_right _ h3
  rw [h2, Nat.add_mul] at h5
  omega
/-- Two digits behind a carry. -/
def car (o : List Nat) (c : Nat) : List Nat := (o.set (c + 1) (o.getD (c + 1) 0 + o.getD c 0 / 65536)).set c (o.getD c 0 % 65536)
theorem getD_set_ne (o : List Nat) (i j x : Nat) (h : j ≠ i) : (o.set i x).getD j 0 = o.getD j 0 := by
  simp only [List.getD]
  rw [List.getElem?_set_ne (by omega)]
theorem getD_set_eq (o : List Nat) (i x : Nat) (h : i < o.length) : (o.set i x).getD i 0 = x := by
  simp only [List.getD]
  rw [List.getElem?_set_self h]
  rfl
theorem car_val (o : List Nat) (c : Nat) (h : c + 1 < o.length) : val (car o c) = val o := by
  have h1 := val_set o (c + 1) (o.getD (c + 1) 0 + o.getD c 0 / 65536) h
  have h2 := val_set (o.set (c + 1) (o.getD (c + 1) 0 + o.getD c 0 / 65536)) c (o.getD c 0 % 65536) (by rw [List.length_set]; omega)
  rw [getD_set_ne _ _ _ _ (by omega)] at h2
  unfold car
  generalize val ((o.set (c + 1) (o.getD (c + 1) 0 + o.getD c 0 / 65536)).set c (o.getD c 0 % 65536)) = v2 at *
  generalize val (o.set (c + 1) (o.getD (c + 1) 0 + o.getD c 0 / 65536)) = v1 at *
  generalize o.getD c 0 = x at *
  generalize o.getD (c + 1) 0 = t at *
  have hx : x = 65536 * (x / 65536) + x % 65536 := by omega
  rw [Nat.mul_add] at h1
  rw [Nat.pow_succ] at h1
  generalize x / 65536 = q at *
  generalize x % 65536 = r at *
  generalize 65536 ^ c = P at *
  have h3 : P * x = P * 65536 * q + P * r := by rw [hx, Nat.mul_add, Nat.mul_assoc]
  omega
theorem car_length (o : List Nat) (c : Nat) : (car o c).length = o.length := by simp [car]
theorem car_digit (o : List Nat) (c : Nat) (hc : c + 1 < o.length) (h : ∀ j, j ≠ c → o.getD j 0 < 65536) (j : Nat) (hj : j ≠ c + 1) : (car o c).getD j 0 < 65536 := by
  unfold car
  by_cases e : j = c
  · rw [e, getD_set_eq _ _ _ (by rw [List.length_set]; omega)]; omega
  · rw [getD_set_ne _ _ _ _ e, getD_set_ne _ _ _ _ hj]; exact h j e
theorem car_next (o : List Nat) (c : Nat) (hc : c + 1 < o.length) (h : ∀ j, j ≠ c → o.getD j 0 < 65536) (h2 : o.getD c 0 < 8589934592) : (car o c).getD (c + 1) 0 < 8589934592 := by
  unfold car
  rw [getD_set_ne _ _ _ _ (by omega), getD_set_eq _ _ _ hc]
  have := h (c + 1) (by omega)
  omega
theorem car_room (o : List Nat) (c n V : Nat) (hn : o.length = n) (hc : c < n) (hx : 65536 ≤ o.getD c 0) (hv : val o = V) (hV : V < 65536 ^ n) : c + 1 < n := by
  by_cases h : c + 1 < n
  · exact h
  · exfalso
    have h1 := val_digit_le o c (by omega)
    have h2 : 65536 ^ c * 65536 ≤ 65536 ^ c * o.getD c 0 := Nat.mul_le_mul_left _ hx
    rw [← Nat.pow_succ, show c.succ = n by omega] at h2
    omega
theorem digits_of (o : List Nat) (h : ∀ j, o.getD j 0 < 65536) : ∀ x ∈ o, x < 65536 := by
  intro x hx
  obtain ⟨j, hj⟩ := List.getElem?_of_mem hx
  have := h j
  rw [List.getD, hj] at this
  exact this

set_option maxRecDepth 100000 in
set_option maxHeartbeats 1600000 in
theorem times_any (v u : Value) (a b : List Nat) (w : World) (hv : Ints w v a) (hu : Ints w u b) (ha : ∀ x ∈ a, x < 65536) (hb : ∀ x ∈ b, x < 65536) (hal : a.length ≤ 100) (hbl : b.length ≤ 100) :
    Calls Tryd.prog 86 #[v, u] w fun e w' => ∃ x c, e = .returned x ∧ Ints w' x c ∧ c.length = a.length + b.length ∧ (∀ d ∈ c, d < 65536) ∧ val c = val a * val b ∧ Below w.heap.size w w' := by
  obtain ⟨i0, hi, hz0, hz1, hz2⟩ := info_parts info_int
  obtain ⟨g, cap, rfl, h1, h2, h3, h4⟩ := hv
  obtain ⟨g', cap', rfl, h1', h2', h3', h4'⟩ := hu
  have H4 := hide h4
  have H4' := hide h4'
  have HA := hide ha
  have HB := hide hb
  clear h4 h4' ha hb h1 h2 h1' h2'
  have hVL := val_lt a (unhide HA)
  have hVB := val_lt b (unhide HB)
  have HLIM := hide (show val a * val b < 65536 ^ (a.length + b.length) by rw [Nat.pow_add]; exact Nat.mul_lt_mul'' hVL hVB)
  clear hVL hVB
  have HTA := hide (val_take_succ a)
  have HTB := hide (val_take_succ b)
  have HTL := hide (val_take_le a)
  have HTLB := hide (val_take_le b)
  have HZA := hide (show val (a.take 0) = 0 from rfl)
  have HZB := hide (show val (b.take 0) = 0 from rfl)
  have HEA := hide (show val (a.take a.length) = val a by rw [List.take_length])
  have HEB := hide (show val (b.take b.length) = val b by rw [List.take_length])
  have HDA := hide (getD_digits a (unhide HA))
  have HDB := hide (getD_digits b (unhide HB))
  clear HA HB
  generalize hla : a.length = la at *
  generalize hlb : b.length = lb at *
  clear hla hlb
  go_enter Tryd.func86, Tryd.ntmps86
  go_wp2_with (at_make; go_must (refine wpList_make_full _ rfl _ _ 78 rfl w.heap.size 3 i0 (.int .i64 0) 1 Tryd.underlying78 hi hz0 hz1 _ _ _ _ (la + lb) rfl rfl (by omega) (by omega) (by rw [hz2]; omega) (by unfold maxLen; omega) (Nat.le_refl _) ?_))
  intro w1 hown1 hgrow1
  have hbel1 : Below w.heap.size w w1 := (Below.refl _ _).grown hgrow1 (Nat.le_refl _) (fun k h => by cases h)
  have hblk1 : IBlk w1 w.heap.size (List.replicate (la + lb) 0) := by
    have := own_full hown1
    rw [made_zeros] at this
    exact this
  clear hown1 hgrow1
  go_wp2
  go_loopw [6] (fun t wr => ∃ (i : Nat) (o : List Nat), i ≤ la ∧ t = .int .i64 i ∧ o.length = la + lb ∧ Hid (∀ x ∈ o, x < 65536) ∧ Hid (val o = val (a.take i) * val b) ∧ IBlk wr w.heap.size o ∧ Below w.heap.size w wr) (fun t _ => la - (intOf t).toNat)
  case atStart =>
    refine ⟨0, List.replicate (la + lb) 0, Nat.zero_le _, rfl, List.length_replicate, hide ?_, hide (by rw [val_zeros, unhide HZA, Nat.zero_mul]), hblk1, hbel1⟩
    intro x hx
    rw [(List.mem_replicate.1 hx).2]
    decide
  case round =>
    obtain ⟨i, o, hil, rfl, hol, HD, HV, hblk, hbel⟩ := hrel
    by_cases hlt : i < la
    · have hd : decide ((i : Int) < (la : Int)) = true := by simp; omega
      have HAI := hide (unhide H4 i hlt)
      have hy := unhide HDA i
      have HST := hide (unhide HTA i hlt)
      have HST2 := hide (unhide HTL (i + 1))
      generalize a.getD i 0 = y at HAI hy HST
      go_wp2
      go_loopw [7] (fun t wr => ∃ (k : Nat) (o : List Nat), k ≤ lb ∧ t = .int .i64 k ∧ o.length = la + lb ∧ Hid (∀ x ∈ o, x < 65536) ∧ Hid (val o = val (a.take i) * val b + 65536 ^ i * y * val (b.take k)) ∧ IBlk wr w.heap.size o ∧ Below w.heap.size w wr) (fun t _ => lb - (intOf t).toNat)
      case atStart => exact ⟨0, o, Nat.zero_le _, rfl, hol, HD, hide (by rw [unhide HZB, Nat.mul_zero, Nat.add_zero]; exact unhide HV), hblk, hbel⟩
      case round =>
        clear hblk hbel HV HD hol o
        obtain ⟨k, o, hkl, rfl, hol, HD, HV, hblk, hbel⟩ := hrel
        by_cases hlt2 : k < lb
        · have hd2 : decide ((k : Int) < (lb : Int)) = true := by simp; omega
          have ca := unhide HAI
          have cb := unhide H4' k hlt2
          rw [← World.cell?_of_block (hbel.block g h3)] at ca
          rw [← World.cell?_of_block (hbel.block g' h3')] at cb
          have hz := unhide HDB k
          have HSB := hide (unhide HTB k hlt2)
          generalize b.getD k 0 = z at cb hz HSB
          have co := hblk.cell (i + k) (by omega)
          have fo := hblk.free (i + k)
          have hx := getD_digits o (unhide HD) (i + k)
          have HVS := hide (val_set o (i + k) (o.getD (i + k) 0 + y * z) (by omega))
          generalize hox : o.getD (i + k) 0 = x at co hx HVS
          have hyz : y * z < 4294967296 := by
            have : y * z ≤ 65535 * 65535 := Nat.mul_le_mul (by omega) (by omega)
            omega
          have e0 : (y : Int) * (z : Int) = ((y * z : Nat) : Int) := by simp
          generalize hmm : y * z = m at *
          have HM := hide hmm
          clear hmm
          have e1 : (i : Int) + (k : Int) = ((i + k : Nat) : Int) := by simp
          have hik : i + k < la + lb := by omega
          generalize hc0 : i + k = c0 at *
          have HC0 := hide hc0
          clear hc0
          have j1 : (c0 : Int) < ((la + lb : Nat) : Int) := by omega
          have j2 : (i : Int) < (la : Int) := by omega
          have j3 : (k : Int) < (lb : Int) := by omega
          have wv1 : IntKind.i64.wrap (c0 : Int) = (c0 : Int) := i64w _ (by omega)
          have wv2 : IntKind.i64.wrap (m : Int) = (m : Int) := i64w _ (by omega)
          have wv3 : IntKind.i64.wrap ((x : Int) + (m : Int)) = (x : Int) + (m : Int) := i64w _ (by omega)
          have HBEL := hide hbel
          have HBLK := hide hblk
          have HOX := hide hox
          clear hbel hblk hox
          go_wp2
          go_region
          rw [show (x : Int) + (m : Int) = ((x + m : Nat) : Int) by simp]
          have hblk2 : IBlk (wr.setCell ⟨w.heap.size, c0, none⟩ (.int .i64 ((x + m : Nat) : Int))).drew w.heap.size (o.set c0 (x + m)) := (unhide HBLK).set c0 (x + m)
          have hbel2 : Below w.heap.size w (wr.setCell ⟨w.heap.size, c0, none⟩ (.int .i64 ((x + m : Nat) : Int))).drew := ((unhide HBEL).setCell (by exact Nat.le_refl _) _).drew
          have HV2 := hide (show val (o.set c0 (x + m)) = val (a.take i) * val b + 65536 ^ i * y * val (b.take (k + 1)) by
            have h1 := unhide HVS
            have h2 := prod_step _ _ _ y z i k (unhide HV)
            rw [unhide HC0, unhide HM] at h2
            rw [unhide HSB, ← h2]
            rw [Nat.mul_add] at h1
            omega)
          have HVL := hide (show val (o.set c0 (x + m)) < 65536 ^ (la + lb) by
            rw [unhide HV2]
            exact Nat.lt_of_le_of_lt (prod_le _ _ _ _ _ _ _ (unhide HTLB (k + 1)) (unhide HST) (unhide HST2)) (unhide HLIM))
          have HOTH := hide (show ∀ j, j ≠ c0 → (o.set c0 (x + m)).getD j 0 < 65536 from fun j hj => by rw [getD_set_ne _ _ _ _ hj]; exact getD_digits o (unhide HD) j)
          have HTHE := hide (show (o.set c0 (x + m)).getD c0 0 < 8589934592 by rw [getD_set_eq _ _ _ (by omega)]; omega)
          have hol2 : (o.set c0 (x + m)).length = la + lb := by rw [List.length_set]; exact hol
          generalize (wr.setCell ⟨w.heap.size, c0, none⟩ (.int .i64 ((x + m : Nat) : Int))).drew = w2 at hblk2 hbel2 ⊢
          generalize o.set c0 (x + m) = o2 at hblk2 HV2 HVL HOTH HTHE hol2
          generalize hVe : val o2 = V at HV2 HVL
          have HVE := hide hVe
          clear hVe HOX HBEL HBLK HVS ca cb co fo hx wv3 wv2 HD HV hol
          go_wp2
          go_loopw [8] (fun t wr => ∃ (c : Nat) (o : List Nat), c < la + lb ∧ t = .int .i64 c ∧ o.length = la + lb ∧ Hid (∀ j, j ≠ c → o.getD j 0 < 65536) ∧ Hid (o.getD c 0 < 8589934592) ∧ Hid (val o = V) ∧ IBlk wr w.heap.size o ∧ Below w.heap.size w wr) (fun t _ => la + lb - (intOf t).toNat)
          case atStart => exact ⟨c0, o2, hik, rfl, hol2, HOTH, HTHE, HVE, hblk2, hbel2⟩
          case round =>
            clear hblk2 hbel2 HOTH HTHE HVE hol2 o2
            obtain ⟨c, o, hc, rfl, hol, HO, HT, HV, hblk, hbel⟩ := hrel
            have cx := hblk.cell c (by omega)
            have j4 : (c : Int) < ((la + lb : Nat) : Int) := by omega
            by_cases hx : 65536 ≤ o.getD c 0
            · have hc1 := car_room o c _ V hol hc hx (unhide HV) (unhide HVL)
              have ct := hblk.cell (c + 1) (by omega)
              have fx := hblk.free c
              have ft := hblk.free (c + 1)
              have hbt := unhide HO (c + 1) (by omega)
              have hbx := unhide HT
              have HBLK := hide hblk
              have HBEL := hide hbel
              have HCAR := hide (show car o c = (o.set (c + 1) (o.getD (c + 1) 0 + o.getD c 0 / 65536)).set c (o.getD c 0 % 65536) from rfl)
              generalize hxe : o.getD c 0 = x at cx hx hbx HCAR
              have HXE := hide hxe
              clear hxe
              generalize o.getD (c + 1) 0 = t at ct hbt HCAR
              have hd3 : decide ((65536 : Int) ≤ (x : Int)) = true := by simp; omega
              have e5 : (c : Int) + 1 = ((c + 1 : Nat) : Int) := by simp
              generalize hce : c + 1 = c1 at *
              have HCE := hide hce
              clear hce
              have j5 : (c1 : Int) < ((la + lb : Nat) : Int) := by omega
              clear hblk hbel
              go_wp2
              go_region
              rw [show (t : Int) + (x : Int) / 65536 = ((t + x / 65536 : Nat) : Int) by omega]
              have hblk3 : IBlk (wr.setCell ⟨w.heap.size, c1, none⟩ (.int .i64 ((t + x / 65536 : Nat) : Int))).drew w.heap.size (o.set c1 (t + x / 65536)) := (unhide HBLK).set c1 _
              have hbel3 : Below w.heap.size w (wr.setCell ⟨w.heap.size, c1, none⟩ (.int .i64 ((t + x / 65536 : Nat) : Int))).drew := ((unhide HBEL).setCell (by exact Nat.le_refl _) _).drew
              generalize (wr.setCell ⟨w.heap.size, c1, none⟩ (.int .i64 ((t + x / 65536 : Nat) : Int))).drew = w3 at hblk3 hbel3 ⊢
              have cx3 := hblk3.cell c (by rw [List.length_set]; omega)
              have hcc : c ≠ c1 := by have := unhide HCE; omega
              rw [getD_set_ne _ _ _ _ hcc, unhide HXE] at cx3
              have fx3 := hblk3.free c
              have HB3 := hide hblk3
              have HL3 := hide hbel3
              clear hblk3 hbel3 cx ct fx ft hcc
              go_wp2
              refine ⟨⟨c1, car o c, by omega, rfl, by rw [car_length]; exact hol, ?_, ?_, ?_, ?_, (unhide HL3).setCell (by exact Nat.le_refl _) _⟩, by simp [intOf]; have := unhide HCE; omega⟩
              · refine hide fun j hj => car_digit o c (by rw [unhide HCE]; omega) (unhide HO) j (by rw [unhide HCE]; exact hj)
              · have := car_next o c (by rw [unhide HCE]; omega) (unhide HO) (unhide HT)
                rw [unhide HCE] at this
                exact hide this
              · exact hide ((car_val o c (by rw [unhide HCE]; omega)).trans (unhide HV))
              · rw [unhide HCAR, show (x : Int) % 65536 = ((x % 65536 : Nat) : Int) by omega]
                exact (unhide HB3).set c _
            · have HD2 := hide (digits_of o fun j => by
                by_cases e : j = c
                · rw [e]; omega
                · exact unhide HO j e)
              generalize o.getD c 0 = x at cx hx
              have hd3 : decide ((65536 : Int) ≤ (x : Int)) = false := by simp; omega
              have HB3 := hide hblk
              have HL3 := hide hbel
              clear hblk hbel
              go_wp2
              exact ⟨⟨k + 1, o, by omega, by go_num, hol, HD2, hide ((unhide HV).trans (unhide HV2)), unhide HB3, unhide HL3⟩, by simp [intOf]; omega⟩
        · have hd2 : decide ((k : Int) < (lb : Int)) = false := by simp; omega
          have hkb : k = lb := by omega
          have HV3 := hide (show val o = val (a.take (i + 1)) * val b by
            rw [unhide HV, hkb, unhide HEB, unhide HST, Nat.add_mul])
          clear hkb
          go_wp2
          exact ⟨⟨i + 1, o, by omega, by go_num, hol, HD, HV3, hblk, hbel⟩, by simp [intOf]; omega⟩
    · have hd : decide ((i : Int) < (la : Int)) = false := by simp; omega
      have hia : i = la := by omega
      have HV3 := hide (show val o = val a * val b by rw [unhide HV, hia, unhide HEA])
      clear hia
      go_wp2
      go_ret
      exact ⟨_, o, rfl, hblk.ints hol (by unfold maxLen; omega), hol, unhide HD, unhide HV3, hbel⟩
end Go.Proofs.YtanfolfopalbeaaDoor
namespace Go.Proofs.YtanfolfopalbeaaDoor
open Go.RowKit

/-- The greatest x whose power is not above P, bit by bit: so many bits are left. -/
def rtl (pw P : Nat) : Nat → Nat → Nat
  | 0, x => x
  | b + 1, x => rtl pw P b (if P < (x + 2 ^ b) ^ pw then x else x + 2 ^ b)
def rt (p pw : Nat) : Nat := rtl pw (p * 65536 ^ (2 * pw)) 41 0 % 4294967296
/-- The digits of p times a power of two. -/
def wantL (p pw : Nat) : List Nat := (List.replicate 8 0).set (2 * pw) p
theorem want_val (p pw : Nat) (h : pw ≤ 3) : val (wantL p pw) = p * 65536 ^ (2 * pw) := by
  have := val_set (List.replicate 8 0) (2 * pw) p (by rw [List.length_replicate]; omega)
  rw [val_zeros] at this
  have h0 : (List.replicate 8 0).getD (2 * pw) 0 = 0 := by
    rw [List.getD]
    cases hc : (List.replicate 8 0)[2 * pw]? with
    | none => rfl
    | some x => exact (List.mem_replicate.1 (List.mem_of_getElem? hc)).2
  rw [h0, Nat.mul_zero, Nat.add_zero, Nat.zero_add] at this
  unfold wantL
  rw [this, Nat.mul_comm]
theorem want_lt (p pw : Nat) (hp : p < 65536) : ∀ x ∈ wantL p pw, x < 65536 := by
  intro x hx
  rcases List.mem_or_eq_of_mem_set hx with h | h
  · rw [(List.mem_replicate.1 h).2]; decide
  · omega
theorem want_length (p pw : Nat) : (wantL p pw).length = 8 := by simp [wantL]
theorem limb_length (n : Nat) : (limb n).length = 3 := rfl

set_option maxRecDepth 100000 in
set_option maxHeartbeats 1600000 in
theorem rooted_any (p pw : Nat) (w : World) (hp : p < 512) (hpw : 1 ≤ pw ∧ pw ≤ 3) :
    Calls Tryd.prog 50 #[.int .i64 p, .int .i64 pw] w fun e w' => e = .returned (.int .u64 (rt p pw)) ∧ Below w.heap.size w w' := by
  obtain ⟨i0, hi, hz0, hz1, hz2⟩ := info_parts info_int
  obtain ⟨hpw1, hpw2⟩ := hpw
  have e0 : (2 : Int) * (pw : Int) = ((2 * pw : Nat) : Int) := by simp
  have HWV := hide (want_val p pw hpw2)
  have HWL := hide (want_lt p pw (by omega))
  have HWN := hide (want_length p pw)
  have HWS := hide (show wantL p pw = (List.replicate 8 0).set (2 * pw) p from rfl)
  have HRT := hide (show rt p pw = rtl pw (p * 65536 ^ (2 * pw)) 41 0 % 4294967296 from rfl)
  have hq8 : 2 * pw < 8 := by omega
  generalize hqe : 2 * pw = q at *
  clear hqe
  generalize p * 65536 ^ q = P at *
  generalize wantL p pw = wl at *
  have j1 : (q : Int) < 8 := by omega
  go_enter Tryd.func50, Tryd.ntmps50
  go_wp2_with (at_make; go_must (refine wpList_make_full _ rfl _ _ 78 rfl w.heap.size 3 i0 (.int .i64 0) 1 Tryd.underlying78 hi hz0 hz1 _ _ _ _ 8 rfl rfl (by omega) (by omega) (by rw [hz2]; omega) (by unfold maxLen; omega) (Nat.le_refl _) ?_))
  intro w1 hown1 hgrow1
  have hbel1 : Below w.heap.size w w1 := (Below.refl _ _).grown hgrow1 (Nat.le_refl _) (fun k h => by cases h)
  have hblk1 : IBlk w1 w.heap.size (List.replicate 8 0) := by
    have := own_full hown1
    rw [made_zeros] at this
    exact this
  clear hown1 hgrow1
  have cq := hblk1.cell q (by rw [List.length_replicate]; exact hq8)
  have fq := hblk1.free q
  have HB1 := hide hblk1
  have HL1 := hide hbel1
  clear hblk1 hbel1
  go_wp2
  have hwant : IBlk (w1.setCell ⟨w.heap.size, q, none⟩ (.int .i64 (p : Int))) w.heap.size wl := by
    rw [unhide HWS]
    exact (unhide HB1).set q p
  have hbel : Below w.heap.size w (w1.setCell ⟨w.heap.size, q, none⟩ (.int .i64 (p : Int))) := (unhide HL1).setCell (by exact Nat.le_refl _) _
  generalize (w1.setCell ⟨w.heap.size, q, none⟩ (.int .i64 (p : Int))) = w2 at hwant hbel ⊢
  have hI := hwant.ints (unhide HWN) (by unfold maxLen; omega)
  clear cq fq HB1 HL1 hwant
  go_loopw [6, 7] (fun tx tb wr => ∃ b x : Nat, b ≤ 41 ∧ x + 2 ^ b ≤ 2199023255552 ∧ tx = .int .i64 x ∧ tb = .int .i64 ((2 ^ b / 2 : Nat) : Int) ∧ Hid (rtl pw P 41 0 = rtl pw P b x) ∧ Ints wr (.slice (some ⟨w.heap.size, 0, none⟩) 8 8) wl ∧ Below w.heap.size w wr) (fun _ tb _ => (intOf tb).toNat)
  case atStart => exact ⟨41, 0, by omega, by decide, rfl, rfl, hide rfl, hI, hbel⟩
  case round =>
    obtain ⟨b, x, hb, hx, rfl, rfl, HR, hI, hbel⟩ := hrel
    cases b with
    | zero =>
      have hd : decide ((0 : Int) < ((2 ^ 0 / 2 : Nat) : Int)) = false := rfl
      have HR2 := hide (show rt p pw = x % 4294967296 by rw [unhide HRT, unhide HR]; rfl)
      clear HRT HR
      have ev : (2 ^ 0 / 2 : Nat) = 0 := rfl
      rw [ev]
      go_wp2
      go_ret
      refine ⟨?_, hbel⟩
      rw [unhide HR2]
      exact ret_int (by omega)
    | succ b =>
      have ev : (2 ^ (b + 1) / 2 : Nat) = 2 ^ b := by rw [Nat.pow_succ]; omega
      rw [ev]
      have h2b : 0 < 2 ^ b := Nat.pos_of_ne_zero (by simp)
      rw [Nat.pow_succ] at hx
      have HST := hide (show rtl pw P (b + 1) x = rtl pw P b (if P < (x + 2 ^ b) ^ pw then x else x + 2 ^ b) from rfl)
      have HHALF := hide (show ∀ y, y = 2 ^ b → y / 2 = 2 ^ b / 2 from fun y h => by rw [h])
      generalize hbe : 2 ^ b = bit at *
      have hd : decide ((0 : Int) < (bit : Int)) = true := by simp; omega
      have e1 : (x : Int) + (bit : Int) = ((x + bit : Nat) : Int) := by simp
      generalize hXe : x + bit = X at *
      have hX : X < 281474976710656 := by omega
      have HXE := hide hXe
      have HBE := hide hbe
      clear hXe hbe
      go_wp2_with (go_at_call 85; refine (limbs_any X _ hX).mono ?_; rintro e wa ⟨lv, rfl, hL, hbl⟩)
      have hI2 := hI.below hbl (Nat.le_refl _)
      have hbel2 := hbel.trans (hbl.mono hbel.size)
      have HLV := hide (limb_val X)
      have HLT := hide (limb_lt X hX)
      clear hI hbel hbl
      go_loopw [9, 10] (fun nv tk wr => ∃ (k : Nat) (c : List Nat), 1 ≤ k ∧ k ≤ pw ∧ tk = .int .i64 k ∧ Ints wr nv c ∧ c.length = 3 * k ∧ Hid (∀ d ∈ c, d < 65536) ∧ Hid (val c = X ^ k) ∧ Ints wr lv (limb X) ∧ Ints wr (.slice (some ⟨w.heap.size, 0, none⟩) 8 8) wl ∧ Below w.heap.size w wr) (fun _ tk _ => pw - (intOf tk).toNat)
      case atStart => exact ⟨1, limb X, Nat.le_refl _, hpw1, rfl, hL, rfl, HLT, hide (by rw [unhide HLV, Nat.pow_one]), hL, hI2, hbel2⟩
      case round =>
        clear hL hI2 hbel2
        obtain ⟨k, c, hk1, hk2, rfl, hN, hcl, HCD, HCV, hL, hI, hbel⟩ := hrel
        by_cases hlt : k < pw
        · have hd2 : decide ((k : Int) < (pw : Int)) = true := by simp; omega
          have hti := times_any _ _ c (limb X) _ hN hL (unhide HCD) (unhide HLT) (by omega) (by rw [limb_length]; omega)
          have HI := hide hI
          have HL := hide hL
          have HBEL := hide hbel
          clear hI hL hbel hN
          go_wp2_with (go_at_call 86; refine hti.mono ?_; rintro e wb ⟨nv2, c2, rfl, hN2, hcl2, hcd2, hcv2, hbb⟩)
          refine ⟨⟨k + 1, c2, by omega, by omega, by go_num, hN2, by rw [hcl2, limb_length]; omega, hide hcd2, hide (by rw [hcv2, unhide HCV, unhide HLV, Nat.pow_succ]), (unhide HL).below hbb (Nat.le_refl _), (unhide HI).below hbb (Nat.le_refl _), (unhide HBEL).trans (hbb.mono (unhide HBEL).size)⟩, by simp [intOf]; omega⟩
        · have hd2 : decide ((k : Int) < (pw : Int)) = false := by simp; omega
          have hkp : k = pw := by omega
          have hab := above_any _ _ c wl _ hN hI (unhide HCD) (unhide HWL) (by omega) (by rw [unhide HWN]; omega)
          rw [unhide HWV, unhide HCV, hkp] at hab
          have HI := hide hI
          have HBEL := hide hbel
          clear hI hL hbel hN
          by_cases hov : P < X ^ pw
          · rw [decide_eq_true hov] at hab
            have HST2 := hide (show rtl pw P (b + 1) x = rtl pw P b x by rw [unhide HST, if_pos hov])
            clear hov
            go_wp2_with (go_at_call 87; refine hab.mono ?_; rintro e wb ⟨rfl, he⟩; cases he)
            exact ⟨⟨b, x, by omega, by rw [unhide HBE]; omega, rfl, by rw [unhide HBE]; exact congrArg (Value.int .i64) (by omega), hide ((unhide HR).trans (unhide HST2)), unhide HI, unhide HBEL⟩, by simp [intOf]; omega⟩
          · rw [decide_eq_false hov] at hab
            have HST2 := hide (show rtl pw P (b + 1) x = rtl pw P b X by rw [unhide HST, if_neg hov])
            clear hov
            go_wp2_with (go_at_call 87; refine hab.mono ?_; rintro e wb ⟨rfl, he⟩; cases he)
            exact ⟨⟨b, X, by omega, by rw [unhide HBE]; have := unhide HXE; omega, rfl, by rw [unhide HBE]; exact congrArg (Value.int .i64) (by omega), hide ((unhide HR).trans (unhide HST2)), unhide HI, unhide HBEL⟩, by simp [intOf]; omega⟩

/-- The primes of the numbers from n on, so many. -/
def cnt : Nat → Nat → Nat
  | 0, _ => 0
  | f + 1, n => (if prm n then 1 else 0) + cnt f (n + 1)
theorem cnt_pos : ∀ f n, n + (f + 1) = 312 → 1 ≤ cnt (f + 1) n := by
  intro f
  induction f with
  | zero =>
    intro n h
    obtain rfl : n = 311 := by omega
    have : prm 311 = true := by decide +kernel
    simp [cnt, this]
  | succ f ih =>
    intro n h
    have := ih (n + 1) (by omega)
    show 1 ≤ (if prm n then 1 else 0) + cnt (f + 1) (n + 1)
    omega
/-- The tables behind one prime more. -/
def lay1 (t : List Nat) (k n : Nat) : List Nat := if k < 8 then (t.set (8 + k) (rt n 3)).set k (rt n 2) else t.set (8 + k) (rt n 3)
theorem lay1_length (t : List Nat) (k n : Nat) : (lay1 t k n).length = t.length := by
  unfold lay1
  split <;> simp
/-- The tables behind so many numbers from n on. -/
def gfw : Nat → Nat → Nat → List Nat → List Nat
  | 0, _, _, t => t
  | f + 1, n, k, t => if prm n then gfw f (n + 1) (k + 1) (lay1 t k n) else gfw f (n + 1) k t
def z72 : List Nat := List.replicate 72 0
theorem cnt_all : cnt 310 2 = 64 := by decide +kernel
theorem gfw_all : gfw 310 2 0 z72 = Hl ++ Kl := by decide +kernel
end Go.Proofs.YtanfolfopalbeaaDoor
namespace Go.Proofs.YtanfolfopalbeaaDoor
open Go.RowKit

theorem lenR_length (x k : Nat) : (lenR x k).length = k := by simp [lenR]
theorem padR_length (l : List UInt8) : (padR l).length = l.length + 1 + zs (l.length + 1) + 8 := by
  unfold padR
  rw [List.length_append, List.length_append, List.length_append, List.length_replicate, lenR_length]
  rfl
theorem padR_mod (l : List UInt8) : (padR l).length % 64 = 0 := by
  rw [padR_length]; unfold zs; omega
theorem padR_le (l : List UInt8) : (padR l).length ≤ l.length + 80 := by
  rw [padR_length]; unfold zs; omega
theorem H0_words : H0.words = Hl := rfl
theorem ncells_at (l : List UInt8) (j : Nat) (h : j < l.length) : (ncells l)[j]? = some (.int .u64 ((l.getD j 0).toNat : Int)) := by
  simp [ncells, List.getD, List.getElem?_eq_getElem h]
theorem range_of_urow {w : World} {g : Nat} {ty : TypeId} {l : List Nat} (h : URow w g ty l) (k : Nat) : w.rangeAt g 0 (ucells (l.take k)) := by
  intro j v hv
  rw [Nat.zero_add, cell_of_row w g j _ _ _ h, List.getElem?_toArray]
  unfold ucells at hv ⊢
  rw [List.map_take, List.getElem?_take] at hv
  split at hv
  · exact hv
  · cases hv
theorem there_of_urow {w : World} {g : Nat} {ty : TypeId} {l : List Nat} (h : URow w g ty l) : w.there g 0 l.length := by
  intro j hj
  rw [Nat.zero_add]
  exact ⟨by rw [h.cell j hj]; rfl, h.free j⟩
theorem setCells_row (g : Nat) (ty : TypeId) : ∀ (vs : List Value) (o : Nat) (w : World) (cs : Array Value), w.heap[g]? = some (.cells cs ty (0, 0)) → o + vs.length ≤ cs.size →
    (w.setCells g o vs).heap[g]? = some (.cells (cs.toList.take o ++ vs ++ cs.toList.drop (o + vs.length)).toArray ty (0, 0)) := by
  intro vs
  induction vs with
  | nil =>
    intro o w cs h _
    show w.heap[g]? = _
    rw [h]
    simp
  | cons v r ih =>
    intro o w cs h hl
    simp only [List.length_cons] at hl
    show ((w.setCell ⟨g, o, none⟩ v).setCells g (o + 1) r).heap[g]? = _
    rw [ih (o + 1) _ _ (heap_setCell_same w g o _ _ _ h) (by simp; omega)]
    congr 3
    rw [Array.toList_setIfInBounds]
    have hlt : o < cs.toList.length := by rw [Array.length_toList]; omega
    have e1 : (cs.toList.set o v).take (o + 1) = cs.toList.take o ++ [v] := by
      rw [List.take_succ_eq_append_getElem (by rw [List.length_set]; exact hlt), List.take_set_of_le (Nat.le_refl _)]
      simp
    rw [e1, List.drop_set_of_lt (by omega), show o + 1 + r.length = o + (v :: r).length by simp; omega]
    simp
theorem urow_setCells {w : World} {g : Nat} {ty : TypeId} {l l2 : List Nat} (h : URow w g ty l) (hl : l.length = l2.length) : URow (w.setCells g 0 (ucells l2)) g ty l2 := by
  unfold URow
  rw [setCells_row g ty (ucells l2) 0 w _ h (by rw [ucells_size, ucells_length]; omega)]
  congr 3
  rw [List.take_zero, List.nil_append, List.drop_eq_nil_of_le (by simp [ucells]; omega), List.append_nil]
theorem setCells_other (g k : Nat) (hk : k ≠ g) : ∀ (vs : List Value) (o : Nat) (w : World), (w.setCells g o vs).heap[k]? = w.heap[k]? := by
  intro vs
  induction vs with
  | nil => intro o w; rfl
  | cons v r ih =>
    intro o w
    show ((w.setCell ⟨g, o, none⟩ v).setCells g (o + 1) r).heap[k]? = _
    rw [ih, heap_setCell_other _ _ _ _ (by exact hk)]
theorem below_setCells {B g : Nat} (hg : B ≤ g) : ∀ (vs : List Value) (o : Nat) {a w : World}, Below B a w → Below B a (w.setCells g o vs) := by
  intro vs
  induction vs with
  | nil => intro o a w h; exact h
  | cons v r ih => intro o a w h; exact ih (o + 1) (h.setCell (by exact hg) v)
theorem setCells_size (g : Nat) : ∀ (vs : List Value) (o : Nat) (w : World), (w.setCells g o vs).heap.size = w.heap.size := by
  intro vs
  induction vs with
  | nil => intro o w; rfl
  | cons v r ih =>
    intro o w
    show ((w.setCell ⟨g, o, none⟩ v).setCells g (o + 1) r).heap.size = _
    rw [ih]
    simp [World.setCell]
theorem dig_at (s : S8) (hs : s.ok) (q m : Nat) (hq : q < 8) (hm : m < 4) : ((dig s).getD (4 * q + m) 0).toNat = s.words.getD q 0 / 2 ^ (24 - m * 8) % 256 := by
  obtain ⟨h1, h2, h3, h4, h5, h6, h7, h8⟩ := hs
  have e1 : q = 0 ∨ q = 1 ∨ q = 2 ∨ q = 3 ∨ q = 4 ∨ q = 5 ∨ q = 6 ∨ q = 7 := by omega
  have e2 : m = 0 ∨ m = 1 ∨ m = 2 ∨ m = 3 := by omega
  have key : ∀ (l : List UInt8) (x : Nat), x < 4294967296 → l = w4 x → (l.getD m 0).toNat = x / 2 ^ (24 - m * 8) % 256 := by
    intro l x hx hl
    subst hl
    rcases e2 with rfl | rfl | rfl | rfl <;> simp [w4] <;> omega
  have hw := getD_lt s.words (words_lt s ⟨h1, h2, h3, h4, h5, h6, h7, h8⟩) q
  have hd : ((dig s).drop (4 * q)).take 4 = w4 (s.words.getD q 0) := by
    rcases e1 with rfl | rfl | rfl | rfl | rfl | rfl | rfl | rfl <;> rfl
  have := key _ _ hw hd
  rw [← this, List.getD, List.getD, List.getElem?_take_of_lt hm, List.getElem?_drop]
theorem take_put (d : List UInt8) (i : Nat) (hd : d.length = 32) (hi : i < 32) : (d.take i ++ List.replicate (32 - i) 0).set i (d.getD i 0) = d.take (i + 1) ++ List.replicate (32 - (i + 1)) 0 := by
  rw [List.set_append_right _ _ (by rw [List.length_take]; omega), List.length_take, Nat.min_eq_left (by omega), Nat.sub_self, show 32 - i = (32 - (i + 1)) + 1 by omega, List.replicate_succ, List.set_cons_zero, List.take_succ_eq_append_getElem (by omega), List.append_assoc]
  simp [List.getD, List.getElem?_eq_getElem (show i < d.length by omega)]
theorem byte_val (x e : Nat) : (((x : Int) / 2 ^ e).tmod 256 % 256 : Int) = ((x / 2 ^ e % 256 : Nat) : Int) := by
  have h : ((x : Int) / 2 ^ e) = ((x / 2 ^ e : Nat) : Int) := by simp
  rw [h]
  generalize x / 2 ^ e = y
  rw [Int.tmod_eq_emod_of_nonneg (by omega)]
  omega
theorem info_tab : (Tryd.prog.info? 26).map (·.size) = some 72 := by kernel_rfl

/-- What stands still while the blocks of a text are taken in. -/
structure NewW (w : World) (tb : List Nat) (gp : Nat) (pl : List UInt8) (wr : World) : Prop where
  pc : ∀ j, j < pl.length → wr.cell? ⟨gp, j, none⟩ = some (.int .u64 ((pl.getD j 0).toNat : Int))
  rt : URow wr w.heap.size 26 tb
  rz : BRow wr (w.heap.size + 1) 31 z32
  hb : Below w.heap.size w wr
  gl : gp < wr.heap.size
theorem NewW.heap {w : World} {tb : List Nat} {gp : Nat} {pl : List UInt8} {wr wq : World} (h : NewW w tb gp pl wr) (hs : wr.heap.size ≤ wq.heap.size) (hb : Below w.heap.size w wq) (h1 : wq.heap[gp]? = wr.heap[gp]?) (h2 : wq.heap[w.heap.size]? = wr.heap[w.heap.size]?) (h3 : wq.heap[w.heap.size + 1]? = wr.heap[w.heap.size + 1]?) : NewW w tb gp pl wq :=
  ⟨fun j hj => by rw [World.cell?_of_block h1]; exact h.pc j hj, by unfold URow; rw [h2]; exact h.rt, by unfold BRow; rw [h3]; exact h.rz, hb, Nat.lt_of_lt_of_le h.gl hs⟩

/-- How long a slice is. -/
def lenV : Value → Nat
  | .slice _ m _ => m
  | _ => 0
theorem lenV_slice (a : Option Addr) (m c : Nat) : lenV (.slice a m c) = m := rfl
theorem nums_of_new {w : World} {tb : List Nat} {gp : Nat} {pl : List UInt8} {wr : World} (h : NewW w tb gp pl wr) (k : Nat) (hk : k + 64 ≤ pl.length) : NumsAt wr gp k ((pl.drop k).take 64) := by
  refine ⟨h.gl, fun j hj => ?_⟩
  rw [h.pc (k + j) (by omega)]
  congr 3
  rw [List.getD, List.getD, List.getElem?_take_of_lt hj, List.getElem?_drop]

theorem rblock_tb {tb : List Nat} (ht : Hl ++ Kl = tb) (s : S8) (g off cap : Nat) (bl : List UInt8) (w : World) (hs : s.ok) (hb : bl.length = 64) (hN : NumsAt w g off bl) :
    Calls Tryd.prog 54 #[.agg (ucells tb).toArray, .agg (ucells s.words).toArray, .slice (some ⟨g, off, none⟩) 64 cap] w fun e w' => e = .returned (.agg (ucells (blk s bl).words).toArray) ∧ Below w.heap.size w w' := by
  subst ht
  exact rblock_any s g off cap bl w hs hb hN
theorem nums_drew {w : World} {g off : Nat} {bl : List UInt8} (h : NumsAt w g off bl) : NumsAt w.drew g off bl := ⟨h.1, h.2⟩
theorem below_drew {B : Nat} {w w' : World} (h : Below B w.drew w') : Below B w w' := ⟨h.os, h.tape, h.output, h.size, h.block⟩

set_option maxRecDepth 100000 in
set_option maxHeartbeats 1600000 in
theorem rnew_any (s : ByteArray) (w : World) (hs : s.size ≤ 1048576) :
    Calls Tryd.prog 17 #[tabV, .string s] w fun e w' => e = .returned (.agg (bcells (dig (cmp (padR s.data.toList).length H0 (padR s.data.toList)))).toArray) ∧ Below w.heap.size w w' := by
  unfold tabV
  have htl := tab_length
  have HTK := hide (show (Hl ++ Kl).take 8 = H0.words from rfl)
  generalize hte : Hl ++ Kl = tb at htl HTK ⊢
  have HTE := hide hte
  clear hte
  go_enter Tryd.func17, Tryd.ntmps17
  go_wp2_with fail
  rw [← z32_cells]
  have g0 : ((w.alloc (.cells (ucells tb).toArray 26)).alloc (.cells (bcells z32).toArray 31)).heap[w.heap.size]? = some (.cells (ucells tb).toArray 26 (0, 0)) := heap_alloc2_old w _ _
  have g1 : ((w.alloc (.cells (ucells tb).toArray 26)).alloc (.cells (bcells z32).toArray 31)).heap[w.heap.size + 1]? = some (.cells (bcells z32).toArray 31 (0, 0)) := heap_alloc2_new w _ _
  have hb0 : Below w.heap.size w ((w.alloc (.cells (ucells tb).toArray 26)).alloc (.cells (bcells z32).toArray 31)) := ((Below.refl _ _).alloc (Nat.le_refl _) _).alloc (by simp) _
  generalize ((w.alloc (.cells (ucells tb).toArray 26)).alloc (.cells (bcells z32).toArray 31)) = W0 at g0 g1 hb0 ⊢
  refine (rpad_any s W0 hs).mono ?_
  rintro e w1 ⟨v, rfl, hown, hb1⟩
  have hm := padR_mod s.data.toList
  have hle := padR_le s.data.toList
  have hle2 : s.data.toList.length = s.size := rfl
  have hpos : 0 < (padR s.data.toList).length := by rw [padR_length]; omega
  generalize hpe : padR s.data.toList = pl at hown hm hle hpos
  have HPE := hide hpe
  clear hpe
  obtain ⟨gp, cp, rfl, hgp, hgpl⟩ := hown.form hpos
  have hbel := hb0.trans (hb1.mono hb0.size)
  have hz0 := hb0.size
  have hz1 := hb1.size
  have hl1 := lt_of_block g1
  have hnw : NewW w tb gp pl w1 := by
    refine ⟨fun j hj => ?_, ?_, ?_, hbel, hgpl⟩
    · have := hown.cells (g := gp) rfl j _ (ncells_at pl j hj)
      rwa [Addr.add_lit, Nat.zero_add] at this
    · unfold URow; rw [hb1.block _ (lt_of_block g0)]; exact g0
    · unfold BRow; rw [hb1.block _ hl1]; exact g1
  have hcp : pl.length ≤ cp ∧ cp ≤ maxLen := by
    rcases hown.2 with ⟨h, _⟩ | ⟨g', cap', cur, h, _, _, h1, h2, _⟩
    · cases h
    · injection h with _ _ h3
      subst h3
      exact ⟨h1, h2⟩
  have L1 := hide (range_of_urow hnw.rt 8)
  rw [unhide HTK] at L1
  have G1 := hide (show (Tryd.prog.info? 23).map (·.size) = some (ucells H0.words).length by rw [ucells_length]; exact info_u8w)
  have G2 := hide (show (Tryd.prog.info? 23).map (·.size) = some (ucells H0.words).toArray.size by rw [ucells_size]; exact info_u8w)
  have G3 := hide (show (ucells z8).toArray.size = (ucells H0.words).toArray.size by rw [ucells_size, ucells_size]; rfl)
  have hH : H0.words.length = 8 := rfl
  have HH := hide H0_ok
  generalize hst : H0.words = h0 at L1 G1 G2 G3 hH
  have HST := hide hst
  have HNW := hide hnw
  clear hown hb1 hb0 g0 g1 hbel hnw HTK hst
  go_wp2_with (first | ((with_reducible refine at_load ?_); refine wpList_load_mid rfl 23 _ rfl w.heap.size 0 rfl (ucells h0) _ (unhide L1) Tryd.underlying23 rfl (unhide G1) ?_) | ((with_reducible refine at_store ?_); refine wpList_store_row rfl 23 _ _ rfl w1.heap.size (ucells h0).toArray rfl rfl 23 _ (heap_alloc_new w1 _) (unhide G2) (unhide G3) (ucells_one h0) ?_))
  have hnw : NewW w tb gp pl ((w1.alloc (.cells (ucells z8).toArray 23)).setRow w1.heap.size (ucells h0).toArray) :=
    (unhide HNW).heap (by rw [setRow_size]; simp) (below_row ((unhide HNW).hb.alloc (by omega) _) (by omega) _) (heap_put_old w1 _ _ _ _ hgpl) (heap_put_old w1 _ _ _ _ (by omega)) (heap_put_old w1 _ _ _ _ (by omega))
  have hv0 : URow ((w1.alloc (.cells (ucells z8).toArray 23)).setRow w1.heap.size (ucells h0).toArray) w1.heap.size 23 h0 := heap_put_new _ _ _ _
  have hH1 : gp ≠ w1.heap.size := by omega
  have hH2 : w.heap.size + 1 < w1.heap.size := by omega
  rw [← z8_cells]
  generalize ((w1.alloc (.cells (ucells z8).toArray 23)).setRow w1.heap.size (ucells h0).toArray) = W5 at hnw hv0 ⊢
  clear HNW L1 G1 G2 G3
  generalize w1.heap.size = H at *
  rw [← unhide HST] at hv0
  have hcp1 := hcp.1
  have hcp2 := hcp.2
  clear hcp
  simp only [Act.put]
  go_loopw [5] (fun v wr => ∃ (k f : Nat) (st : S8) (c : Nat) (p : Option Addr), 64 * k ≤ pl.length ∧ v = .slice p (pl.length - 64 * k) c ∧ (0 < pl.length - 64 * k → p = some ⟨gp, 64 * k, none⟩) ∧ pl.length - 64 * k ≤ c ∧ c ≤ maxLen ∧ st.ok ∧ pl.length - 64 * k ≤ f ∧ Hid (cmp pl.length H0 pl = cmp f st (pl.drop (64 * k))) ∧ URow wr H 23 st.words ∧ NewW w tb gp pl wr) (fun v _ => lenV v)
  case atStart => exact ⟨0, pl.length, H0, cp, _, by omega, rfl, fun _ => rfl, hcp1, hcp2, unhide HH, by omega, hide rfl, hv0, hnw⟩
  case round =>
    obtain ⟨k, f, st, c, p, hk, rfl, hp, hc1, hc2, hok, hf, HC, hv, hnw⟩ := hrel
    generalize hre : pl.length - 64 * k = r at hp hc1 hf ⊢
    by_cases hr : 0 < r
    · have h64 : 64 ≤ r := by omega
      cases hp hr
      clear hp
      have HST2 := hide (show cmp f st (pl.drop (64 * k)) = cmp (f - 1) (blk st ((pl.drop (64 * k)).take 64)) (pl.drop (64 * (k + 1))) by
        have h1 : f = (f - 1) + 1 := by omega
        rw [h1, cmp_step _ _ _ (by rw [List.length_drop]; omega), List.drop_drop, show 64 * k + 64 = 64 * (k + 1) by omega]
        rfl)
      have hN := nums_of_new hnw (64 * k) (by omega)
      have hbl : ((pl.drop (64 * k)).take 64).length = 64 := by rw [List.length_take, List.length_drop]; omega
      have hwl := words_length st
      have hR1 : wr.drew.rangeAt w.heap.size 0 (ucells tb) := by have := range_of_urow hnw.rt 72; rw [List.take_of_length_le (by omega)] at this; simpa using this
      have hR2 : wr.drew.rangeAt H 0 (ucells st.words) := by have := range_of_urow hv 8; rw [List.take_of_length_le (by omega)] at this; simpa using this
      have G1 := hide (show (Tryd.prog.info? 26).map (·.size) = some (ucells tb).length by rw [ucells_length, htl]; exact info_tab)
      have G2 := hide (show (Tryd.prog.info? 23).map (·.size) = some (ucells st.words).length by rw [ucells_length]; exact info_u8w)
      have d1 : decide ((0 : Int) < (r : Int)) = true := by simp; omega
      have i1 : (64 : Int) ≤ (r : Int) := by omega
      have i2 : (64 : Int) ≤ (c : Int) := by omega
      have i3 : (r : Int) ≤ (c : Int) := by omega
      have HV := hide hv
      have HNW := hide hnw
      have HN := hide hN
      clear hv hnw hN
      generalize (pl.drop (64 * k)).take 64 = bl at *
      go_wp2_with fail
      refine wp_region_held_drew (S := fun w' => w'.rangeAt w.heap.size 0 (ucells tb)) (by kernel_rfl) hR1 (fun hHeld => ?_)
      refine wpAnyH_take (i := 0) rfl (by kernel_rfl) (by kernel_rfl) (by kernel_rfl) (fun _ _ _ h => h)
          (yieldsIf_load_mid (by rfl) 26 _ rfl w.heap.size 0 rfl (ucells tb) _ (fun _ h => h) Tryd.underlying26 rfl (unhide G1)) hHeld ?_
      refine wpAnyH_take (i := 2) (v := .slice (some ⟨gp, 64 * k, none⟩) r c) rfl (by kernel_rfl) (by kernel_rfl) (by kernel_rfl) (fun _ _ _ h => h) (Or.inl ⟨by rfl, fun _ _ => by go_simp⟩) hHeld ?_
      refine wpAnyH_take (i := 3) (v := .slice (some ⟨gp, 64 * k, none⟩) 64 c) rfl (by kernel_rfl) (by kernel_rfl) (by kernel_rfl) (fun _ _ _ h => h) (Or.inl ⟨by rfl, fun _ _ => by go_simp⟩) hHeld ?_
      refine wpAnyH_ready (rs := [1]) (by kernel_rfl) (by simp) ?_
      refine AllReadyH.cons rfl (fun K hK => ?_) AllReadyH.nil
      rw [if_pos (by rfl)]
      refine wp_load_mid 23 _ rfl H 0 rfl (ucells st.words) _ hR2 Tryd.underlying23 rfl (unhide G2) ?_
      refine hK.out _ _ hHeld (fun hHeld => ?_)
      clear hK K
      refine wpAnyH_ready (rs := [4]) (by kernel_rfl) (by simp) ?_
      refine AllReadyH.cons rfl (fun K hK => ?_) AllReadyH.nil
      go_simp
      go_at_call 54
      refine (rblock_tb (unhide HTE) st gp (64 * k) c bl _ hok hbl (nums_drew (unhide HN))).mono ?_
      rintro e w3 ⟨rfl, hb3⟩
      have hv3 : URow w3 H 23 st.words := by
        unfold URow; rw [hb3.block _ (by simpa using (unhide HV).lt)]; exact unhide HV
      have hnw3 : NewW w tb gp pl w3 := by
        have h0 := unhide HNW
        exact h0.heap (by simpa using hb3.size) (h0.hb.trans ((below_drew hb3).mono h0.hb.size)) (hb3.block _ (by simpa using h0.gl)) (hb3.block _ (by simpa using h0.rt.lt)) (hb3.block _ (by simpa using lt_of_block h0.rz))
      dsimp only
      have hR3 : w3.rangeAt w.heap.size 0 (ucells tb) := by have := range_of_urow hnw3.rt 72; rwa [List.take_of_length_le (by omega)] at this
      refine hK.out _ _ hR3 (fun _ => ?_)
      clear hK K
      have hT : w3.there H 0 (ucells (blk st bl).words).toArray.size := by have := there_of_urow hv3; rwa [words_length, ← words_length (blk st bl), ← ucells_size] at this
      have G3 := hide (show (Tryd.prog.info? 23).map (·.size) = some (ucells (blk st bl).words).toArray.size by rw [ucells_size]; exact info_u8w)
      refine wpAnyH_ready (rs := [5]) (by kernel_rfl) (by simp) ?_
      refine AllReadyH.cons rfl (fun K hK => ?_) AllReadyH.nil
      rw [if_pos (by rfl)]
      refine wp_store_mid 23 _ _ rfl H 0 _ rfl rfl hT (unhide G3) (ucells_one _) ?_
      have hv4 : URow (w3.setCells H 0 (ucells (blk st bl).words)) H 23 (blk st bl).words := urow_setCells hv3 (by rw [words_length, words_length])
      have hnw4 : NewW w tb gp pl (w3.setCells H 0 (ucells (blk st bl).words)) :=
        hnw3.heap (by rw [setCells_size]; exact Nat.le_refl _) (below_setCells (by omega) _ _ hnw3.hb) (setCells_other _ _ hH1 _ _ _) (setCells_other _ _ (by omega) _ _ _) (setCells_other _ _ (by omega) _ _ _)
      rw [show (ucells (blk st bl).words).toArray.toList = ucells (blk st bl).words from rfl]
      have hR4 : (w3.setCells H 0 (ucells (blk st bl).words)).rangeAt w.heap.size 0 (ucells tb) := by have := range_of_urow hnw4.rt 72; rwa [List.take_of_length_le (by omega)] at this
      generalize w3.setCells H 0 (ucells (blk st bl).words) = w4 at hv4 hnw4 hR4 ⊢
      refine hK.out _ _ hR4 (fun _ => ?_)
      clear hK K
      refine wpAnyH_done (by kernel_rfl) ?_ _
      go_wp2_with fail
      refine ⟨⟨k + 1, f - 1, blk st bl, c - 64, _, by omega, by rw [show pl.length - 64 * (k + 1) = r - 64 by omega], fun h => ?_, by omega, by omega, plus_ok _ _, by omega, hide ((unhide HC).trans (unhide HST2)), hv4, hnw4⟩, ?_⟩
      · rw [if_neg (by omega), show 64 * k + 64 = 64 * (k + 1) by omega]
      · simp only [lenV]; omega
    · have hr0 : r = 0 := by omega
      subst hr0
      clear hp
      have HE := hide (show cmp pl.length H0 pl = st by rw [unhide HC]; exact cmp_end _ _ _ (by rw [List.length_drop]; omega))
      have d1 : decide ((0 : Int) < ((0 : Nat) : Int)) = false := rfl
      have hz := hnw.hb.size
      go_wp2_with fail
      rw [← z32_cells]
      have hv2 : URow (wr.alloc (.cells (bcells z32).toArray 31)) H 23 st.words := by
        unfold URow; rw [Below.heap_alloc _ _ _ hv.lt]; exact hv
      have hrz2 : BRow (wr.alloc (.cells (bcells z32).toArray 31)) (w.heap.size + 1) 31 z32 := by
        unfold BRow; rw [Below.heap_alloc _ _ _ (lt_of_block hnw.rz)]; exact hnw.rz
      have ho2 : BRow (wr.alloc (.cells (bcells z32).toArray 31)) wr.heap.size 31 z32 := heap_alloc_new wr _
      have hbe2 : Below w.heap.size w (wr.alloc (.cells (bcells z32).toArray 31)) := hnw.hb.alloc hz _
      have hHlt := hv.lt
      have HDE := hide (dig_at st hok)
      have hdl : (dig st).length = 32 := dgk_length st 8 (Nat.le_refl _)
      have hwlt := words_lt st hok
      have HSE := hide (show dig (cmp pl.length H0 pl) = dig st by rw [unhide HE])
      generalize wr.alloc (.cells (bcells z32).toArray 31) = W6 at hv2 hrz2 ho2 hbe2 ⊢
      generalize wr.heap.size = G at *
      generalize hdd : dig st = dd at HDE hdl HSE
      have hwl := words_length st
      generalize st.words = ws at hv2 HDE hwlt hwl
      clear hv hnw HC HE hdd hok
      go_loopw [8] (fun v wr => ∃ i : Nat, i ≤ 32 ∧ v = .int .i64 i ∧ BRow wr G 31 (dd.take i ++ List.replicate (32 - i) 0) ∧ URow wr H 23 ws ∧ BRow wr (w.heap.size + 1) 31 z32 ∧ Below w.heap.size w wr) (fun v _ => 32 - (intOf v).toNat)
      case atStart => exact ⟨0, by omega, rfl, ho2, hv2, hrz2, hbe2⟩
      case round =>
        obtain ⟨i, hi, rfl, hrow, hv, hrz, hbel⟩ := hrel
        by_cases hlt : i < 32
        · have hq : i / 4 < 8 := by omega
          have hm : i % 4 < 4 := by omega
          have HB := hide ((unhide HDE) (i / 4) (i % 4) hq hm)
          rw [show 4 * (i / 4) + i % 4 = i by omega] at HB
          have ch := hv.cell (i / 4) (by omega)
          have co := hrow.cell i (by rw [List.length_append, List.length_take, List.length_replicate]; omega)
          have fo := hrow.free i
          have bx := getD_lt ws hwlt (i / 4)
          have e1 : Int.tdiv (i : Int) 4 = ((i / 4 : Nat) : Int) := by rw [Int.tdiv_eq_ediv_of_nonneg (by omega)]; omega
          have e2 : Int.tmod (i : Int) 4 = ((i % 4 : Nat) : Int) := by rw [Int.tmod_eq_emod_of_nonneg (by omega)]; omega
          generalize ws.getD (i / 4) 0 = x at ch HB bx
          have hqe : i / 4 * 4 + i % 4 = i := by omega
          generalize i / 4 = q at *
          generalize i % 4 = m at *
          have hd : decide ((i : Int) < 32) = true := by simp; omega
          go_wp2_with fail
          have hval : (((x : Int) / 2 ^ (24 - m * 8)).tmod 256 % 256 : Int) = ((dd.getD i 0).toNat : Int) := by rw [unhide HB]; exact byte_val x _
          rw [hval]
          refine ⟨⟨i + 1, by omega, by go_num, by rw [← take_put dd i hdl hlt]; exact hrow.set i _, hv.other (by omega), ?_, hbel.setCell (by exact hz) _⟩, by simp [intOf]; omega⟩
          unfold BRow
          rw [heap_setCell_other _ _ _ _ (by show w.heap.size + 1 ≠ G; omega)]
          exact hrz
        · have hie : i = 32 := by omega
          rw [hie, show 32 - 32 = 0 from rfl, List.replicate_zero, List.append_nil, List.take_of_length_le (by omega)] at hrow
          have hsd : (bcells dd).toArray.size = 32 := by rw [bcells_size, hdl]
          have K1 : Hid (wr.heap[G]? = some (.cells (bcells dd).toArray 31 (0, 0))) := hide hrow
          have K2 : Hid (wr.heap[w.heap.size + 1]? = some (.cells (bcells z32).toArray 31 (0, 0))) := hide hrz
          have K3 := hide (show (Tryd.prog.info? 31).map (·.size) = some (bcells dd).toArray.size by rw [hsd]; exact info_dg)
          have K4 := hide (show (bcells z32).toArray.size = (bcells dd).toArray.size by rw [hsd, bcells_size]; rfl)
          have hd : decide ((i : Int) < 32) = false := by simp; omega
          clear hrow hv hrz hie hsd hdl
          go_wp2_with (first | ((with_reducible refine at_load ?_); refine wpList_load_row rfl 31 _ rfl G rfl 31 (bcells dd).toArray (0, 0) _ (unhide K1) Tryd.underlying31 rfl (unhide K3) ?_) | ((with_reducible refine at_store ?_); refine wpList_store_row rfl 31 _ _ rfl (w.heap.size + 1) (bcells dd).toArray rfl rfl 31 _ (unhide K2) (unhide K3) (unhide K4) (bcells_one dd) ?_))
          refine bodyPost_ret (v := .agg (bcells dd).toArray) ?_ rfl ⟨by rw [unhide HPE, unhide HSE], below_row hbel (by omega) _⟩
          exact results_cell_row Tryd.results17 _ _ (w.heap.size + 1) 31 _ (0, 0) _ rfl (setRow_heap _ _ _ _ _ _ (unhide K2)) Tryd.underlying31 rfl (unhide K3)
end Go.Proofs.YtanfolfopalbeaaDoor
namespace Go.Proofs.YtanfolfopalbeaaDoor
open Go.RowKit

theorem z72_length : z72.length = 72 := rfl
theorem info_zero : (Tryd.prog.info? 26).map (·.zero) = some (some (.agg (ucells z72).toArray)) := by kernel_rfl
theorem zero_tab (w : World) : Sem.run Tryd.prog (zeroValue 26) w = .ok (.agg (ucells z72).toArray) w := by
  have h := info_zero
  cases hi : Tryd.prog.info? 26 with
  | none => rw [hi] at h; cases h
  | some i =>
    rw [hi] at h
    have hz : i.zero = some (.agg (ucells z72).toArray) := by injection h
    generalize (ucells z72).toArray = cs at hz
    simp [zeroValue, typeInfo, hi, hz]

theorem gfw_step (f n k : Nat) (t : List Nat) : gfw (f + 1) n k t = if prm n then gfw f (n + 1) (k + 1) (lay1 t k n) else gfw f (n + 1) k t := rfl

set_option maxRecDepth 100000 in
set_option maxHeartbeats 1600000 in
theorem newsums_any (w : World) :
    Calls Tryd.prog 13 #[] w fun e w' => e = .returned tabV ∧ Below w.heap.size w w' := by
  have hzt := zero_tab
  have hzl := z72_length
  have HALL := hide gfw_all
  have HCNT := hide cnt_all
  generalize z72 = z7 at hzt hzl HALL
  obtain ⟨T, HT0⟩ : ∃ T, Hid (T = gfw 310 2 0 z7) := ⟨_, hide rfl⟩
  rw [← unhide HT0] at HALL
  go_enter Tryd.func13, Tryd.ntmps13
  go_wp2
  have g0 : URow ((w.alloc (.cells (ucells z7).toArray 26)).alloc (.cells (ucells z7).toArray 26)) w.heap.size 26 z7 := heap_alloc2_old w _ _
  have g1 : URow ((w.alloc (.cells (ucells z7).toArray 26)).alloc (.cells (ucells z7).toArray 26)) (w.heap.size + 1) 26 z7 := heap_alloc2_new w _ _
  have hb0 : Below w.heap.size w ((w.alloc (.cells (ucells z7).toArray 26)).alloc (.cells (ucells z7).toArray 26)) := ((Below.refl _ _).alloc (Nat.le_refl _) _).alloc (by simp) _
  generalize ((w.alloc (.cells (ucells z7).toArray 26)).alloc (.cells (ucells z7).toArray 26)) = W0 at g0 g1 hb0 ⊢
  clear hzt
  go_loopw [2, 3] (fun tk tn wr => ∃ (f n k : Nat) (t : List Nat), n + f = 312 ∧ 2 ≤ n ∧ tn = .int .i64 n ∧ tk = .int .i64 k ∧ Hid (k + cnt f n = 64) ∧ t.length = 72 ∧ Hid (T = gfw f n k t) ∧ URow wr (w.heap.size + 1) 26 t ∧ URow wr w.heap.size 26 z7 ∧ Below w.heap.size w wr) (fun _ tn _ => 312 - (intOf tn).toNat)
  case atStart => exact ⟨310, 2, 0, z7, rfl, Nat.le_refl _, rfl, rfl, hide (by rw [unhide HCNT]), hzl, HT0, g1, g0, hb0⟩
  case round =>
    clear g0 g1 hb0 HT0
    obtain ⟨f, n, k, t, hf, hn2, rfl, rfl, HK, htl, HG, g1, g0, hbel⟩ := hrel
    cases f with
    | zero =>
      have hk : k = 64 := by have := unhide HK; simpa [cnt] using this
      have hd : decide ((k : Int) < 64) = false := by simp; omega
      have HT := hide (show tabV = .agg (ucells t).toArray by unfold tabV; rw [← unhide HALL, unhide HG]; rfl)
      have K1 : Hid (wr.heap[w.heap.size + 1]? = some (.cells (ucells t).toArray 26 (0, 0))) := hide g1
      have K2 : Hid (wr.heap[w.heap.size]? = some (.cells (ucells z7).toArray 26 (0, 0))) := hide g0
      have K3 := hide (show (Tryd.prog.info? 26).map (·.size) = some (ucells t).toArray.size by rw [ucells_size, htl]; exact info_tab)
      have K4 := hide (show (ucells z7).toArray.size = (ucells t).toArray.size by rw [ucells_size, ucells_size, htl, hzl])
      clear g0 g1 HG hk
      go_wp2_with (first | ((with_reducible refine at_load ?_); refine wpList_load_row rfl 26 _ rfl (w.heap.size + 1) rfl 26 (ucells t).toArray (0, 0) _ (unhide K1) Tryd.underlying26 rfl (unhide K3) ?_) | ((with_reducible refine at_store ?_); refine wpList_store_row rfl 26 _ _ rfl w.heap.size (ucells t).toArray rfl rfl 26 _ (unhide K2) (unhide K3) (unhide K4) (ucells_one t) ?_))
      refine bodyPost_ret (v := .agg (ucells t).toArray) ?_ rfl ⟨by rw [unhide HT], below_row hbel (Nat.le_refl _) _⟩
      exact results_cell_row Tryd.results13 _ _ w.heap.size 26 _ (0, 0) _ rfl (setRow_heap _ _ _ _ _ _ (unhide K2)) Tryd.underlying26 rfl (unhide K3)
    | succ f =>
      have hcp := cnt_pos f n hf
      have hk : k < 64 := by have := unhide HK; omega
      have hd : decide ((k : Int) < 64) = true := by simp; omega
      have hpr := fun wq => prime_any n wq hn2 (by omega)
      have hg1l := g1.lt
      have hbs := hbel.size
      by_cases hp : prm n = true
      · rw [hp] at hpr
        have HK2 := hide (show k + 1 + cnt f (n + 1) = 64 by have h9 := unhide HK; simp only [cnt, hp, if_true] at h9; omega)
        have HG2 := hide (show T = gfw f (n + 1) (k + 1) (lay1 t k n) by rw [unhide HG, gfw_step, if_pos hp])
        have hr3 : ∀ wq, Calls Tryd.prog 50 #[.int .i64 n, .int .i64 3] wq fun e w' => e = .returned (.int .u64 (rt n 3)) ∧ Below wq.heap.size wq w' := fun wq => rooted_any n 3 wq (by omega) (by omega)
        have hr2 : ∀ wq, Calls Tryd.prog 50 #[.int .i64 n, .int .i64 2] wq fun e w' => e = .returned (.int .u64 (rt n 2)) ∧ Below wq.heap.size wq w' := fun wq => rooted_any n 2 wq (by omega) (by omega)
        have HLY := hide (show lay1 t k n = if k < 8 then (t.set (8 + k) (rt n 3)).set k (rt n 2) else t.set (8 + k) (rt n 3) from rfl)
        have hll := lay1_length t k n
        generalize rt n 3 = y3 at hr3 HLY
        generalize rt n 2 = y2 at hr2 HLY
        generalize lay1 t k n = t2 at HLY HG2 hll
        have G1 := hide g1
        have G0 := hide g0
        have HBEL := hide hbel
        clear g1 g0 hbel HG HK
        have i1 : (k : Int) < 64 := by omega
        by_cases h8 : k < 8
        · have hd8 : decide ((k : Int) < 8) = true := by simp; omega
          rw [if_pos h8] at HLY
          go_wp2_with (first | (go_at_call 49; (with_reducible refine (hpr _).mono ?_); rintro e wa ⟨rfl, he⟩; cases he) | (go_at_call 50; first | ((with_reducible refine (hr3 _).mono ?_); rintro e wb ⟨rfl, hbb⟩; have g3 := (unhide G1).below hbb (Nat.le_refl _); have c3 := g3.cell (8 + k) (by omega); have f3 := g3.free (8 + k); have G3 := hide g3; clear g3) | ((with_reducible refine (hr2 _).mono ?_); rintro e wc ⟨rfl, hbc⟩; have g4 := ((unhide G3).set (8 + k) y3).below hbc (Nat.le_refl _); have c4 := g4.cell k (by rw [List.length_set]; omega); have f4 := g4.free k; have G4 := hide g4; clear g4)))
          have g0b := (unhide G0).below hbb (Nat.le_refl _)
          have hB1 : Below w.heap.size w (wb.setCell ⟨w.heap.size + 1, 8 + k, none⟩ (.int .u64 (y3 : Int))) := ((unhide HBEL).trans (hbb.mono hbs)).setCell (by show w.heap.size ≤ w.heap.size + 1; omega) _
          have hB2 := hB1.trans (hbc.mono hB1.size)
          have g0c := (g0b.other (g' := w.heap.size + 1) (j := 8 + k) (v := .int .u64 (y3 : Int)) (by omega)).below hbc (Nat.le_refl _)
          refine ⟨⟨f, n + 1, k + 1, t2, by omega, by omega, by go_num, by go_num, HK2, by rw [hll]; exact htl, HG2, by rw [unhide HLY]; exact (unhide G4).set k y2, g0c.other (by omega), hB2.setCell (by show w.heap.size ≤ w.heap.size + 1; omega) _⟩, by simp [intOf]; omega⟩
        · have hd8 : decide ((k : Int) < 8) = false := by simp; omega
          rw [if_neg h8] at HLY
          go_wp2_with (first | (go_at_call 49; (with_reducible refine (hpr _).mono ?_); rintro e wa ⟨rfl, he⟩; cases he) | (go_at_call 50; (with_reducible refine (hr3 _).mono ?_); rintro e wb ⟨rfl, hbb⟩; have g3 := (unhide G1).below hbb (Nat.le_refl _); have c3 := g3.cell (8 + k) (by omega); have f3 := g3.free (8 + k); have G3 := hide g3; clear g3))
          have g0b := (unhide G0).below hbb (Nat.le_refl _)
          have hB1 : Below w.heap.size w (wb.setCell ⟨w.heap.size + 1, 8 + k, none⟩ (.int .u64 (y3 : Int))) := ((unhide HBEL).trans (hbb.mono hbs)).setCell (by show w.heap.size ≤ w.heap.size + 1; omega) _
          refine ⟨⟨f, n + 1, k + 1, t2, by omega, by omega, by go_num, by go_num, HK2, by rw [hll]; exact htl, HG2, by rw [unhide HLY]; exact (unhide G3).set (8 + k) y3, g0b.other (by omega), hB1⟩, by simp [intOf]; omega⟩
      · have hp2 : prm n = false := by simpa using hp
        rw [hp2] at hpr
        have HK2 := hide (show k + cnt f (n + 1) = 64 by have h9 := unhide HK; simp only [cnt, hp2, Bool.false_eq_true, if_false] at h9; omega)
        have HG2 := hide (show T = gfw f (n + 1) k t by rw [unhide HG, gfw_step, if_neg hp])
        clear HG HK hp hp2
        go_wp2_with (go_at_call 49; (with_reducible refine (hpr _).mono ?_); rintro e wa ⟨rfl, he⟩; cases he)
        exact ⟨⟨f, n + 1, k, t, by omega, by omega, by go_num, rfl, HK2, htl, HG2, g1, g0, hbel⟩, by simp [intOf]; omega⟩
end Go.Proofs.YtanfolfopalbeaaDoor
