/- package carry: Step: the contract. -/
import Derived.Test.YtanfolfopalbeaaDoorCarry5
import Derived.Test.YtanfolfopalbeaaDoorRead
namespace Go.Proofs.YtanfolfopalbeaaDoor
open Go.RowKit

theorem rd_facts : ∀ (f k v : Nat) (l : List UInt8), k ≤ 100 → (rd f k v l).1.length + k ≤ 100 ∧ (∀ e ∈ (rd f k v l).1, e.length ≤ 20) ∧ (rd f k v l).2.1 ≤ 4 ∧ (rd f k v l).2.2 ≤ 100 := by
  intro f
  induction f with
  | zero => intro k v l hk; exact ⟨by simpa [rd] using hk, by simp [rd], by simp [rd], by simp [rd]⟩
  | succ f ih =>
    intro k v l hk
    by_cases hl : l = []
    · subst hl
      rw [rd_end]
      exact ⟨by simpa using hk, by simp, by simp, by simp⟩
    · by_cases h1 : k = 100
      · subst h1
        rw [rd_full f v l hl]
        exact ⟨by simp, by simp, by simp, by simp⟩
      · by_cases he : rfErr l v = 0
        · rw [rd_step f k v l hl h1 he]
          obtain ⟨a, b, c, d⟩ := ih (k + 1) (rfLnk l v) (l.drop (3 + (rfEnt l v).length)) (by omega)
          refine ⟨by simp only [List.length_cons]; omega, ?_, c, d⟩
          intro e hm
          rcases List.mem_cons.1 hm with rfl | hm
          · exact (rfEnt_le l v).1
          · exact b e hm
        · rw [rd_bad f k v l hl h1 he]
          exact ⟨by simpa using hk, by simp, rfErr_le l v, hk⟩
theorem rdOld_facts (l : List UInt8) : (rdOld l).1.length ≤ 100 ∧ (∀ e ∈ (rdOld l).1, e.length ≤ 20) ∧ (rdOld l).2.1 ≤ 4 ∧ (rdOld l).2.2 ≤ 100 := by
  unfold rdOld
  split
  · exact ⟨by simp, by simp, by simp, by simp⟩
  · have := rd_facts l.length 0 0 l (by omega)
    exact ⟨by omega, this.2.1, this.2.2.1, this.2.2.2⟩
/-- How far a batch goes. -/
def goesTo (k b n : Nat) : Nat := min (k + b) n
/-- The entries of the next batch. -/
def nextB (rs : List (List UInt8)) (k b : Nat) : List (List UInt8) := (rs.drop k).take (goesTo k b rs.length - k)
/-- What Step answers of a disk with entries es and of an old log that reads as r: the plan, the error, the number. -/
def stepOf (r : List (List UInt8) × Nat × Nat) (d es : List (List UInt8)) (b : Nat) : List It × Nat × Nat :=
  if r.2.1 = 1 ∨ (r.2.1 ≠ 0 ∧ r.2.2 < es.length + b) then ([], r.2.1, r.2.2)
  else if r.1.length ≤ es.length then ([], 8, 0)
  else if 32 * (d.length - 1) < (wb es).length + (wb (nextB r.1 es.length b)).length then ([], 9, 0)
  else (planL d (wb es) (wb (nextB r.1 es.length b)) (goesTo es.length b r.1.length), 0, 0)
/-- What Step answers. -/
def stepR (l : List UInt8) (d : List (List UInt8)) (b : Int) : List It × Nat × Nat :=
  if (dEnt d).2 ≠ 0 then ([], 6, 0) else if b < 1 ∨ 100 < b then ([], 7, 0) else stepOf (rdOld l) d (dEnt d).1 b.toNat
theorem Strs.mid {w : World} {b off cap n : Nat} {ss : List ByteArray} (h : Strs w (.slice (some ⟨b, off, none⟩) n cap) ss) (k m : Nat) (hk : k + m ≤ n) : Strs w (.slice (some ⟨b, off + k, none⟩) m (cap - k)) ((ss.drop k).take m) :=
  (h.back k (by omega)).front m (by omega)
theorem map_mk_mid (rs : List (List UInt8)) (k m : Nat) : ((rs.map mk).drop k).take m = ((rs.drop k).take m).map mk := by rw [List.map_take, List.map_drop]

set_option maxRecDepth 100000 in
set_option maxHeartbeats 400000 in
theorem step_disk (s : ByteArray) (v : Value) (ds : List (List UInt8)) (bt : Int) (w : World) (hD : Digs w v ds) (h6 : (dEnt ds).2 = 6) :
    Calls Tryd.prog 82 #[.string s, v, .int .i64 bt] w fun e w' => e = .returned (.tuple #[.slice none 0 0, .int .i64 6, .int .i64 0]) ∧ Below w.heap.size w w' := by
  have HE := hide (ents_any v ds w hD)
  rw [h6] at HE
  clear h6 hD
  go_enter Tryd.func82, Tryd.ntmps82
  go_wp2_with fail
  refine (unhide HE).mono ?_
  rintro e w1 ⟨v1, rfl, hown1, hb1⟩
  go_wp2
  go_ret3
  exact ⟨rfl, hb1⟩

set_option maxRecDepth 100000 in
set_option maxHeartbeats 400000 in
theorem step_batch (s : ByteArray) (v : Value) (ds : List (List UInt8)) (bt : Int) (w : World) (hD : Digs w v ds) (h0 : (dEnt ds).2 = 0) (hb : bt < 1 ∨ 100 < bt) :
    Calls Tryd.prog 82 #[.string s, v, .int .i64 bt] w fun e w' => e = .returned (.tuple #[.slice none 0 0, .int .i64 7, .int .i64 0]) ∧ Below w.heap.size w w' := by
  have HE := hide (ents_any v ds w hD)
  rw [h0] at HE
  clear h0 hD
  by_cases h1 : bt < 1
  · have hd1 : decide (bt < 1) = true := by simp; omega
    go_enter Tryd.func82, Tryd.ntmps82
    go_wp2_with fail
    refine (unhide HE).mono ?_
    rintro e w1 ⟨v1, rfl, hown1, hb1⟩
    go_wp2
    go_ret3
    exact ⟨rfl, hb1⟩
  · have hd1 : decide (bt < 1) = false := by simp; omega
    have hd2 : decide (100 < bt) = true := by simp; omega
    go_enter Tryd.func82, Tryd.ntmps82
    go_wp2_with fail
    refine (unhide HE).mono ?_
    rintro e w1 ⟨v1, rfl, hown1, hb1⟩
    go_wp2
    go_ret3
    exact ⟨rfl, hb1⟩

set_option maxRecDepth 100000 in
set_option maxHeartbeats 3200000 in
theorem step_in (s : ByteArray) (v : Value) (ds es : List (List UInt8)) (bt : Nat) (w : World) (hm : s.size ≤ maxLen) (hD : Digs w v ds) (hE : dEnt ds = (es, 0)) (hst : Std ds es) (hb1 : 1 ≤ bt) (hb2 : bt ≤ 100) :
    Calls Tryd.prog 82 #[.string s, v, .int .i64 bt] w fun e w' => ∃ v', e = .returned (.tuple #[v', .int .i64 (stepOf (rdOld s.data.toList) ds es bt).2.1, .int .i64 (stepOf (rdOld s.data.toList) ds es bt).2.2]) ∧
      w'.ownsRow w.heap.size 131 34 v' (stepOf (rdOld s.data.toList) ds es bt).1.length (pcells (stepOf (rdOld s.data.toList) ds es bt).1) ∧ Below w.heap.size w w' := by
  have HE := hide (ents_any v ds w hD)
  rw [hE] at HE
  have HRD := hide (fun wq => read_any s wq hm)
  obtain ⟨hr1, hr2, hr3, hr4⟩ := rdOld_facts s.data.toList
  have hn2 := hst.n2
  have hn3 := hst.n300
  have hfe := hst.few
  have HSM := hide (mk_small hst.small)
  have hwl := wb_length_le es hst.small
  have HD := hide (fun wq hb => hD.below (w' := wq) (B := w.heap.size) hb (Nat.le_refl _))
  obtain ⟨b, off, cap, hv, _, _⟩ := digs_shape hD (by omega)
  subst hv
  generalize rdOld s.data.toList = R at HRD hr1 hr2 hr3 hr4 ⊢
  obtain ⟨rs, er, nu⟩ := R
  simp only at hr1 hr2 hr3 hr4 HRD ⊢
  have HRS := hide hr2
  have hd1 : decide ((bt : Int) < 1) = false := by simp; omega
  have hd2 : decide ((100 : Int) < (bt : Int)) = false := by simp; omega
  clear hE hst hD hr2
  go_enter Tryd.func82, Tryd.ntmps82
  go_wp2_with fail
  refine (unhide HE).mono ?_
  rintro e w1 ⟨v1, rfl, hown1, hbel1⟩
  obtain ⟨ao1, cap1, hv1⟩ := own_shape hown1
  subst hv1
  have S1 := hide (strs_of_own (ss := es.map mk) (by simpa using hown1))
  clear HE hown1
  go_wp2_with fail
  refine (unhide HRD _).mono ?_
  rintro e w2 ⟨v2, rfl, hown2, hb2'⟩
  obtain ⟨ao2, cap2, hv2⟩ := own_shape hown2
  subst hv2
  have hbel2 := hbel1.trans (hb2'.mono hbel1.size)
  have S2 := hide ((unhide S1).below hb2' (Nat.le_refl _))
  have hR2 := strs_of_own (ss := rs.map mk) (by simpa using hown2)
  clear HRD S1 hown2 hb2' hbel1
  by_cases hbad : er = 1 ∨ (er ≠ 0 ∧ nu < es.length + bt)
  · have HST := hide (show stepOf (rs, er, nu) ds es bt = ([], er, nu) by unfold stepOf; rw [if_pos hbad])
    by_cases he1 : er = 1
    · have hx1 : ((er : Int) == 1) = true := by rw [beq_iff_eq]; omega
      clear hbad he1
      go_wp2
      go_ret3
      rw [unhide HST]
      exact ⟨_, rfl, World.ownsRow_nil _ _ _ _, hbel2⟩
    · have hx1 : ((er : Int) == 1) = false := by rw [beq_eq_false_iff_ne]; omega
      have hx2 : ((er : Int) != 0) = true := by rw [bne_iff_ne]; omega
      have hx3 : decide ((nu : Int) < (es.length : Int) + (bt : Int)) = true := by simp; omega
      clear hbad he1
      go_wp2
      go_ret3
      rw [unhide HST]
      exact ⟨_, rfl, World.ownsRow_nil _ _ _ _, hbel2⟩
  · by_cases hdone : rs.length ≤ es.length
    · have HST := hide (show stepOf (rs, er, nu) ds es bt = ([], 8, 0) by unfold stepOf; rw [if_neg hbad, if_pos hdone])
      have hx4 : decide ((rs.length : Int) ≤ (es.length : Int)) = true := by simp; omega
      have hx1 : ((er : Int) == 1) = false := by rw [beq_eq_false_iff_ne]; omega
      by_cases he0 : er = 0
      · have hx2 : ((er : Int) != 0) = false := by rw [bne_eq_false_iff_eq]; omega
        clear hbad he0
        go_wp2
        go_ret3
        rw [unhide HST]
        exact ⟨_, rfl, World.ownsRow_nil _ _ _ _, hbel2⟩
      · have hx2 : ((er : Int) != 0) = true := by rw [bne_iff_ne]; omega
        have hx3 : decide ((nu : Int) < (es.length : Int) + (bt : Int)) = false := by simp; omega
        clear hbad he0
        go_wp2
        go_ret3
        rw [unhide HST]
        exact ⟨_, rfl, World.ownsRow_nil _ _ _ _, hbel2⟩
    · have hx4 : decide ((rs.length : Int) ≤ (es.length : Int)) = false := by simp; omega
      have hx1 : ((er : Int) == 1) = false := by rw [beq_eq_false_iff_ne]; omega
      obtain ⟨b2, o2, c2, hv2, hc2⟩ := strs_shape hR2 (by intro h; have := congrArg List.length h; simp at this; rw [this] at hdone; simp at hdone)
      simp only [Value.slice.injEq, List.length_map, true_and] at hv2
      obtain ⟨rfl, rfl⟩ := hv2
      rw [List.length_map] at hc2
      have hnb : (nextB rs es.length bt).length = goesTo es.length bt rs.length - es.length := by
        unfold nextB goesTo
        rw [List.length_take, List.length_drop]
        omega
      have hns : ∀ e ∈ nextB rs es.length bt, e.length ≤ 20 := fun e he => unhide HRS e (List.mem_of_mem_drop (List.mem_of_mem_take he))
      have hnwl := wb_length_le _ hns
      have HNS := hide (mk_small hns)
      have hgt : goesTo es.length bt rs.length = min (es.length + bt) rs.length := rfl
      have HMID := hide (fun wq (hb : Below w2.heap.size w2 wq) => (map_mk_mid rs es.length (goesTo es.length bt rs.length - es.length)) ▸ ((hR2.below (w' := wq) (B := w2.heap.size) hb (Nat.le_refl _)).mid es.length (goesTo es.length bt rs.length - es.length) (by omega)))
      have HST0 := hide (show stepOf (rs, er, nu) ds es bt = if 32 * (ds.length - 1) < (wb es).length + (wb (nextB rs es.length bt)).length then ([], 9, 0) else (planL ds (wb es) (wb (nextB rs es.length bt)) (goesTo es.length bt rs.length), 0, 0) by unfold stepOf; rw [if_neg hbad, if_neg hdone])
      have hmore : (rs.drop es.length).take (goesTo es.length bt rs.length - es.length) = nextB rs es.length bt := rfl
      rw [hmore] at HMID
      generalize hge : goesTo es.length bt rs.length = g at *
      generalize hne : nextB rs es.length bt = nb at *
      have hgl : es.length < g ∧ g ≤ rs.length := by omega
      clear hmore hne hns hR2 hgt
      have HGE := hide hge
      clear hge
      by_cases he0 : er = 0
      · have hx2 : ((er : Int) != 0) = false := by rw [bne_eq_false_iff_eq]; omega
        clear hbad hdone he0
        by_cases hend : rs.length < es.length + bt
        · have hx5 : decide ((rs.length : Int) < (es.length : Int) + (bt : Int)) = true := by simp; omega
          obtain rfl : g = rs.length := by have := unhide HGE; unfold goesTo at this; omega
          go_wp2_with fail
          refine (writeBody_any _ (es.map mk) _ (unhide S2) (by simpa using hfe) (unhide HSM)).mono ?_
          rw [bs_mk]
          rintro e w3 ⟨rfl, hb3⟩
          have hbel3 := hbel2.trans (hb3.mono hbel2.size)
          have M3 := hide (unhide HMID _ hb3)
          have hnl : nb.length ≤ 100 := by omega
          have g1 : (es.length : Int) ≤ (rs.length : Int) := by omega
          have g2 : (rs.length : Int) ≤ (cap2 : Int) := by omega
          have g3 : (rs.length : Int) ≤ (rs.length : Int) := by omega
          have g4 : ((rs.length : Int) - (es.length : Int)).toNat = rs.length - es.length := by omega
          clear S2 HMID HSM hb3 hbel2 hnb
          go_wp2_with fail
          refine (writeBody_any _ (nb.map mk) _ (unhide M3) (by rw [List.length_map]; exact hnl) (unhide HNS)).mono ?_
          rw [bs_mk]
          rintro e w4 ⟨rfl, hb4⟩
          have hbel4 := hbel3.trans (hb4.mono hbel3.size)
          have D4 := hide (unhide HD _ hbel4)
          clear M3 HD HNS hb4 hbel3
          have hA : (mk (wb es)).size = (wb es).length := mk_size _
          have hM : (mk (wb nb)).size = (wb nb).length := mk_size _
          have hP := fun wq hd hr => plan_any (.slice (some ⟨b, off, none⟩) ds.length cap) ds (mk (wb es)) (mk (wb nb)) rs.length wq hd hn2 hn3 hr (by omega)
          have HP := hide hP
          clear hP
          have HAM := hide (show ∀ c, planL ds (mk (wb es)).data.toList (mk (wb nb)).data.toList c = planL ds (wb es) (wb nb) c from fun _ => rfl)
          rw [← hA, ← hM] at HST0
          rw [← hA] at hwl
          rw [← hM] at hnwl
          clear hA hM
          generalize hAe : mk (wb es) = A at *
          generalize hMe : mk (wb nb) = M at *
          clear hAe hMe
          by_cases hfull : 32 * (ds.length - 1) < A.size + M.size
          · have HST := hide (show stepOf (rs, er, nu) ds es bt = ([], 9, 0) by rw [unhide HST0, if_pos hfull])
            have hx6 : decide (((ds.length : Int) - 1) * 32 < (A.size : Int) + (M.size : Int)) = true := by simp; omega
            go_wp2
            go_ret3
            rw [unhide HST]
            exact ⟨_, rfl, World.ownsRow_nil _ _ _ _, hbel4⟩
          · have HST := hide (show stepOf (rs, er, nu) ds es bt = (planL ds (wb es) (wb nb) rs.length, 0, 0) by rw [unhide HST0, if_neg hfull])
            have hx6 : decide (((ds.length : Int) - 1) * 32 < (A.size : Int) + (M.size : Int)) = false := by simp; omega
            go_wp2_with fail
            refine (unhide HP _ (unhide D4) (by omega)).mono ?_
            rw [unhide HAM]
            rintro e w5 ⟨v5, rfl, hown5, hb5⟩
            have hbel5 := hbel4.trans (hb5.mono hbel4.size)
            go_wp2
            go_ret3
            rw [unhide HST]
            exact ⟨_, rfl, own_base hown5 hbel4.size, hbel5⟩
        · have hx5 : decide ((rs.length : Int) < (es.length : Int) + (bt : Int)) = false := by simp; omega
          obtain rfl : g = es.length + bt := by have := unhide HGE; unfold goesTo at this; omega
          rw [Nat.add_sub_cancel_left] at HMID
          go_wp2_with fail
          refine (writeBody_any _ (es.map mk) _ (unhide S2) (by simpa using hfe) (unhide HSM)).mono ?_
          rw [bs_mk]
          rintro e w3 ⟨rfl, hb3⟩
          have hbel3 := hbel2.trans (hb3.mono hbel2.size)
          have M3 := hide (unhide HMID _ hb3)
          have hnl : nb.length ≤ 100 := by omega
          have g1 : (es.length : Int) ≤ (es.length : Int) + (bt : Int) := by omega
          have g2 : (es.length : Int) + (bt : Int) ≤ (cap2 : Int) := by omega
          have g3 : (es.length : Int) + (bt : Int) ≤ (rs.length : Int) := by omega
          clear S2 HMID HSM hb3 hbel2 hnb
          go_wp2_with fail
          refine (writeBody_any _ (nb.map mk) _ (unhide M3) (by rw [List.length_map]; exact hnl) (unhide HNS)).mono ?_
          rw [bs_mk]
          rintro e w4 ⟨rfl, hb4⟩
          have hbel4 := hbel3.trans (hb4.mono hbel3.size)
          have D4 := hide (unhide HD _ hbel4)
          clear M3 HD HNS hb4 hbel3
          have hA : (mk (wb es)).size = (wb es).length := mk_size _
          have hM : (mk (wb nb)).size = (wb nb).length := mk_size _
          have hP := fun wq hd hr => plan_any (.slice (some ⟨b, off, none⟩) ds.length cap) ds (mk (wb es)) (mk (wb nb)) (es.length + bt) wq hd hn2 hn3 hr (by omega)
          simp only [Int.natCast_add] at hP
          have HP := hide hP
          clear hP
          have HAM := hide (show ∀ c, planL ds (mk (wb es)).data.toList (mk (wb nb)).data.toList c = planL ds (wb es) (wb nb) c from fun _ => rfl)
          rw [← hA, ← hM] at HST0
          rw [← hA] at hwl
          rw [← hM] at hnwl
          clear hA hM
          generalize hAe : mk (wb es) = A at *
          generalize hMe : mk (wb nb) = M at *
          clear hAe hMe
          by_cases hfull : 32 * (ds.length - 1) < A.size + M.size
          · have HST := hide (show stepOf (rs, er, nu) ds es bt = ([], 9, 0) by rw [unhide HST0, if_pos hfull])
            have hx6 : decide (((ds.length : Int) - 1) * 32 < (A.size : Int) + (M.size : Int)) = true := by simp; omega
            go_wp2
            go_ret3
            rw [unhide HST]
            exact ⟨_, rfl, World.ownsRow_nil _ _ _ _, hbel4⟩
          · have HST := hide (show stepOf (rs, er, nu) ds es bt = (planL ds (wb es) (wb nb) (es.length + bt), 0, 0) by rw [unhide HST0, if_neg hfull])
            have hx6 : decide (((ds.length : Int) - 1) * 32 < (A.size : Int) + (M.size : Int)) = false := by simp; omega
            go_wp2_with fail
            refine (unhide HP _ (unhide D4) (by omega)).mono ?_
            rw [unhide HAM]
            rintro e w5 ⟨v5, rfl, hown5, hb5⟩
            have hbel5 := hbel4.trans (hb5.mono hbel4.size)
            go_wp2
            go_ret3
            rw [unhide HST]
            exact ⟨_, rfl, own_base hown5 hbel4.size, hbel5⟩
      · have hx2 : ((er : Int) != 0) = true := by rw [bne_iff_ne]; omega
        have hx3 : decide ((nu : Int) < (es.length : Int) + (bt : Int)) = false := by simp; omega
        clear hbad hdone he0
        by_cases hend : rs.length < es.length + bt
        · have hx5 : decide ((rs.length : Int) < (es.length : Int) + (bt : Int)) = true := by simp; omega
          obtain rfl : g = rs.length := by have := unhide HGE; unfold goesTo at this; omega
          go_wp2_with fail
          refine (writeBody_any _ (es.map mk) _ (unhide S2) (by simpa using hfe) (unhide HSM)).mono ?_
          rw [bs_mk]
          rintro e w3 ⟨rfl, hb3⟩
          have hbel3 := hbel2.trans (hb3.mono hbel2.size)
          have M3 := hide (unhide HMID _ hb3)
          have hnl : nb.length ≤ 100 := by omega
          have g1 : (es.length : Int) ≤ (rs.length : Int) := by omega
          have g2 : (rs.length : Int) ≤ (cap2 : Int) := by omega
          have g3 : (rs.length : Int) ≤ (rs.length : Int) := by omega
          have g4 : ((rs.length : Int) - (es.length : Int)).toNat = rs.length - es.length := by omega
          clear S2 HMID HSM hb3 hbel2 hnb
          go_wp2_with fail
          refine (writeBody_any _ (nb.map mk) _ (unhide M3) (by rw [List.length_map]; exact hnl) (unhide HNS)).mono ?_
          rw [bs_mk]
          rintro e w4 ⟨rfl, hb4⟩
          have hbel4 := hbel3.trans (hb4.mono hbel3.size)
          have D4 := hide (unhide HD _ hbel4)
          clear M3 HD HNS hb4 hbel3
          have hA : (mk (wb es)).size = (wb es).length := mk_size _
          have hM : (mk (wb nb)).size = (wb nb).length := mk_size _
          have hP := fun wq hd hr => plan_any (.slice (some ⟨b, off, none⟩) ds.length cap) ds (mk (wb es)) (mk (wb nb)) rs.length wq hd hn2 hn3 hr (by omega)
          have HP := hide hP
          clear hP
          have HAM := hide (show ∀ c, planL ds (mk (wb es)).data.toList (mk (wb nb)).data.toList c = planL ds (wb es) (wb nb) c from fun _ => rfl)
          rw [← hA, ← hM] at HST0
          rw [← hA] at hwl
          rw [← hM] at hnwl
          clear hA hM
          generalize hAe : mk (wb es) = A at *
          generalize hMe : mk (wb nb) = M at *
          clear hAe hMe
          by_cases hfull : 32 * (ds.length - 1) < A.size + M.size
          · have HST := hide (show stepOf (rs, er, nu) ds es bt = ([], 9, 0) by rw [unhide HST0, if_pos hfull])
            have hx6 : decide (((ds.length : Int) - 1) * 32 < (A.size : Int) + (M.size : Int)) = true := by simp; omega
            go_wp2
            go_ret3
            rw [unhide HST]
            exact ⟨_, rfl, World.ownsRow_nil _ _ _ _, hbel4⟩
          · have HST := hide (show stepOf (rs, er, nu) ds es bt = (planL ds (wb es) (wb nb) rs.length, 0, 0) by rw [unhide HST0, if_neg hfull])
            have hx6 : decide (((ds.length : Int) - 1) * 32 < (A.size : Int) + (M.size : Int)) = false := by simp; omega
            go_wp2_with fail
            refine (unhide HP _ (unhide D4) (by omega)).mono ?_
            rw [unhide HAM]
            rintro e w5 ⟨v5, rfl, hown5, hb5⟩
            have hbel5 := hbel4.trans (hb5.mono hbel4.size)
            go_wp2
            go_ret3
            rw [unhide HST]
            exact ⟨_, rfl, own_base hown5 hbel4.size, hbel5⟩
        · have hx5 : decide ((rs.length : Int) < (es.length : Int) + (bt : Int)) = false := by simp; omega
          obtain rfl : g = es.length + bt := by have := unhide HGE; unfold goesTo at this; omega
          rw [Nat.add_sub_cancel_left] at HMID
          go_wp2_with fail
          refine (writeBody_any _ (es.map mk) _ (unhide S2) (by simpa using hfe) (unhide HSM)).mono ?_
          rw [bs_mk]
          rintro e w3 ⟨rfl, hb3⟩
          have hbel3 := hbel2.trans (hb3.mono hbel2.size)
          have M3 := hide (unhide HMID _ hb3)
          have hnl : nb.length ≤ 100 := by omega
          have g1 : (es.length : Int) ≤ (es.length : Int) + (bt : Int) := by omega
          have g2 : (es.length : Int) + (bt : Int) ≤ (cap2 : Int) := by omega
          have g3 : (es.length : Int) + (bt : Int) ≤ (rs.length : Int) := by omega
          clear S2 HMID HSM hb3 hbel2 hnb
          go_wp2_with fail
          refine (writeBody_any _ (nb.map mk) _ (unhide M3) (by rw [List.length_map]; exact hnl) (unhide HNS)).mono ?_
          rw [bs_mk]
          rintro e w4 ⟨rfl, hb4⟩
          have hbel4 := hbel3.trans (hb4.mono hbel3.size)
          have D4 := hide (unhide HD _ hbel4)
          clear M3 HD HNS hb4 hbel3
          have hA : (mk (wb es)).size = (wb es).length := mk_size _
          have hM : (mk (wb nb)).size = (wb nb).length := mk_size _
          have hP := fun wq hd hr => plan_any (.slice (some ⟨b, off, none⟩) ds.length cap) ds (mk (wb es)) (mk (wb nb)) (es.length + bt) wq hd hn2 hn3 hr (by omega)
          simp only [Int.natCast_add] at hP
          have HP := hide hP
          clear hP
          have HAM := hide (show ∀ c, planL ds (mk (wb es)).data.toList (mk (wb nb)).data.toList c = planL ds (wb es) (wb nb) c from fun _ => rfl)
          rw [← hA, ← hM] at HST0
          rw [← hA] at hwl
          rw [← hM] at hnwl
          clear hA hM
          generalize hAe : mk (wb es) = A at *
          generalize hMe : mk (wb nb) = M at *
          clear hAe hMe
          by_cases hfull : 32 * (ds.length - 1) < A.size + M.size
          · have HST := hide (show stepOf (rs, er, nu) ds es bt = ([], 9, 0) by rw [unhide HST0, if_pos hfull])
            have hx6 : decide (((ds.length : Int) - 1) * 32 < (A.size : Int) + (M.size : Int)) = true := by simp; omega
            go_wp2
            go_ret3
            rw [unhide HST]
            exact ⟨_, rfl, World.ownsRow_nil _ _ _ _, hbel4⟩
          · have HST := hide (show stepOf (rs, er, nu) ds es bt = (planL ds (wb es) (wb nb) (es.length + bt), 0, 0) by rw [unhide HST0, if_neg hfull])
            have hx6 : decide (((ds.length : Int) - 1) * 32 < (A.size : Int) + (M.size : Int)) = false := by simp; omega
            go_wp2_with fail
            refine (unhide HP _ (unhide D4) (by omega)).mono ?_
            rw [unhide HAM]
            rintro e w5 ⟨v5, rfl, hown5, hb5⟩
            have hbel5 := hbel4.trans (hb5.mono hbel4.size)
            go_wp2
            go_ret3
            rw [unhide HST]
            exact ⟨_, rfl, own_base hown5 hbel4.size, hbel5⟩

theorem step_any (s : ByteArray) (v : Value) (ds : List (List UInt8)) (bt : Int) (w : World) (hm : s.size ≤ maxLen) (hD : Digs w v ds) :
    Calls Tryd.prog 82 #[.string s, v, .int .i64 bt] w fun e w' => ∃ v', e = .returned (.tuple #[v', .int .i64 (stepR s.data.toList ds bt).2.1, .int .i64 (stepR s.data.toList ds bt).2.2]) ∧
      w'.ownsRow w.heap.size 131 34 v' (stepR s.data.toList ds bt).1.length (pcells (stepR s.data.toList ds bt).1) ∧ Below w.heap.size w w' := by
  rcases dEnt_spec hD.1 with ⟨h1, h2, _⟩ | ⟨h1, h2, _⟩
  · rw [show stepR s.data.toList ds bt = ([], 6, 0) by unfold stepR; rw [if_pos (by omega)]]
    refine (step_disk s v ds bt w hD h1).mono ?_
    rintro e w' ⟨rfl, hb⟩
    exact ⟨_, rfl, World.ownsRow_nil _ _ _ _, hb⟩
  · by_cases hb : bt < 1 ∨ 100 < bt
    · rw [show stepR s.data.toList ds bt = ([], 7, 0) by unfold stepR; rw [if_neg (by omega), if_pos hb]]
      refine (step_batch s v ds bt w hD h1 hb).mono ?_
      rintro e w' ⟨rfl, hb⟩
      exact ⟨_, rfl, World.ownsRow_nil _ _ _ _, hb⟩
    · rw [show stepR s.data.toList ds bt = stepOf (rdOld s.data.toList) ds (dEnt ds).1 bt.toNat by unfold stepR; rw [if_neg (by omega), if_neg hb]]
      obtain ⟨n, rfl⟩ : ∃ n : Nat, bt = (n : Int) := ⟨bt.toNat, by omega⟩
      exact step_in s v ds (dEnt ds).1 n w hm hD (by rw [← h1]) h2 (by omega) (by omega)

set_option maxRecDepth 100000 in
set_option maxHeartbeats 400000 in
theorem Step_any (s : ByteArray) (v : Value) (ds : List (List UInt8)) (bt : Int) (w : World) (hm : s.size ≤ maxLen) (hD : Digs w v ds) :
    Calls Tryd.prog 42 #[.string s, v, .int .i64 bt] w fun e w' => ∃ v', e = .returned (.tuple #[v', .int .i64 (stepR s.data.toList ds bt).2.1, .int .i64 (stepR s.data.toList ds bt).2.2]) ∧
      w'.ownsRow w.heap.size 131 34 v' (stepR s.data.toList ds bt).1.length (pcells (stepR s.data.toList ds bt).1) ∧ Below w.heap.size w w' := by
  have HS := hide (step_any s v ds bt w hm hD)
  generalize stepR s.data.toList ds bt = r at HS ⊢
  obtain ⟨pl, c, n⟩ := r
  simp only at HS ⊢
  clear hD hm
  go_enter Tryd.func42, Tryd.ntmps42
  go_wp2_with fail
  refine (unhide HS).mono ?_
  rintro e w2 ⟨v2, rfl, hown2, hb2⟩
  go_wp2
  go_ret3
  exact ⟨_, rfl, hown2, hb2⟩
end Go.Proofs.YtanfolfopalbeaaDoor
