/- translate.collision: the contract. -/
import Derived.Test.YtanfolfopalbeabDoorOldPrv
import Derived.Test.YtanfolfopalbeabDoorTreeProve
namespace Go.Proofs.YtanfolfopalbeabDoor
open Go.RowKit

theorem info_car : (Tryd.prog.info? 60).map (·.size) = some 3 := by kernel_rfl
theorem car_one (ao : Option Addr) (n c : Nat) (a b : ByteArray) : (#[Value.slice ao n c, .string a, .string b] : Array Value).all (·.oneCell') = true := by simp [Value.oneCell']
theorem results_car1 {P : Program} {fn : Func} {p : Tmp} {ty : TypeId} (h : fn.results = #[.cell p ty]) (tmps : Array Value) (w : World) (g : Nat) (t : TypeId) (cs : Array Value) (fr : Nat × Nat) (d : TypeDesc)
    (hp : tmps.getD p undef = .pointer (some ⟨g, 0, none⟩)) (hg : w.heap[g]? = some (.cells cs t fr))
    (hu : P.underlying ty = some d) (hd : (match d with | .struct _ | .array _ _ => true | _ => false) = true) (hi : (P.info? ty).map (·.size) = some cs.size) :
    (results fn tmps).run P w = .ok (.agg cs) w := by
  have hp' : tmps[p]?.getD undef = .pointer (some ⟨g, 0, none⟩) := by simpa using hp
  simp [results, h, hp', asAddr, run_loadVar_row w g t ty cs fr d hg hu hd hi]
theorem mk_getD (es : List (List UInt8)) (i : Nat) (hi : i < es.length) : (es.map mk).getD i ByteArray.empty = mk (es.getD i []) := by
  rw [List.getD_eq_getElem?_getD, List.getD_eq_getElem?_getD, List.getElem?_map, List.getElem?_eq_getElem hi]
  rfl
theorem bs_getD (rs : List ByteArray) (k : Nat) (hk : k < rs.length) : (bs rs)[k]? = some (rs.getD k ByteArray.empty).data.toList := by
  unfold bs
  rw [List.getElem?_map, List.getElem?_eq_getElem hk, List.getD_eq_getElem?_getD, List.getElem?_eq_getElem hk]
  rfl

/-- What stands in a loop over two chains. -/
def CollAt (ps qs : List (List UInt8)) (c : List UInt8 × List UInt8) (k : Nat) (l r : ByteArray) : Prop := coll (ps.drop k) (qs.drop k) l.data.toList r.data.toList = c
theorem CollAt.next {ps qs : List (List UInt8)} {c : List UInt8 × List UInt8} {k : Nat} {l r : ByteArray} (h : CollAt ps qs c k l r) (p q : ByteArray) (hp : ps[k]? = some p.data.toList) (hq : qs[k]? = some q.data.toList) (hw : wk l.data.toList ≠ wk r.data.toList) : CollAt ps qs c (k + 1) (lkt (wk l.data.toList) p) (lkt (wk r.data.toList) q) := by
  unfold CollAt at h ⊢
  have h1 : ps.drop k = p.data.toList :: ps.drop (k + 1) := by
    obtain ⟨hk, e⟩ := List.getElem?_eq_some_iff.1 hp
    rw [List.drop_eq_getElem_cons hk, e]
  have h2 : qs.drop k = q.data.toList :: qs.drop (k + 1) := by
    obtain ⟨hk, e⟩ := List.getElem?_eq_some_iff.1 hq
    rw [List.drop_eq_getElem_cons hk, e]
  rw [h1, h2, coll_next _ _ _ _ _ _ hw] at h
  rw [lkt_data, lkt_data]
  exact h
theorem CollAt.same {ps qs : List (List UInt8)} {c : List UInt8 × List UInt8} {k : Nat} {l r : ByteArray} (h : CollAt ps qs c k l r) (hw : wk l.data.toList = wk r.data.toList) : l = mk c.1 ∧ r = mk c.2 := by
  unfold CollAt at h
  rw [coll_same _ _ _ _ hw] at h
  rw [← h]
  exact ⟨rfl, rfl⟩
theorem CollAt.done {ps qs : List (List UInt8)} {c : List UInt8 × List UInt8} {k : Nat} {l r : ByteArray} (h : CollAt ps qs c k l r) (hk : ps.length ≤ k) : l = mk c.1 ∧ r = mk c.2 := by
  unfold CollAt at h
  rw [List.drop_of_length_le hk, coll_nil] at h
  rw [← h]
  exact ⟨rfl, rfl⟩

set_option maxRecDepth 100000 in
set_option maxHeartbeats 1600000 in
theorem collision_any (v : Value) (es : List (List UInt8)) (i : Nat) (entry : ByteArray) (before : Nat) (vr : Value) (rs : List ByteArray) (w : World) (h : Strs w v (es.map mk)) (hr : Strs w vr rs) (hi : i < es.length) (hl : rs.length = es.length - (i + 1)) (hes : ∀ e ∈ es, e.length ≤ 20) (h100 : es.length ≤ 100)
    (he : entry.size ≤ 140737488351232) (hbf : before < 65536) (hz : ∀ i, i < rs.length → (rs.getD i ByteArray.empty).size ≤ 140737488351232) (c : List UInt8 × List UInt8) (hc : c = coll (bs rs) (es.drop (i + 1)) (two before ++ entry.data.toList) (two (last 0 (es.take i)) ++ es.getD i [])) :
    Calls Tryd.prog 62 #[v, .int .i64 i, .string entry, .agg #[.int .u16 before, vr]] w fun e w' => e = .returned (.agg #[.slice none 0 0, .string (mk c.1), .string (mk c.2)]) ∧ Below w.heap.size w w' := by
  have hb0 : Below w.heap.size w ((w.alloc (.cells #[.int .u16 (before : Int), vr] 51)).alloc (.cells #[.slice none 0 0, .string ⟨#[]⟩, .string ⟨#[]⟩] 60)) := ((Below.refl _ _).alloc (Nat.le_refl _) _).alloc (by simp) _
  have hp0 : ((w.alloc (.cells #[.int .u16 (before : Int), vr] 51)).alloc (.cells #[.slice none 0 0, .string ⟨#[]⟩, .string ⟨#[]⟩] 60)).heap[w.heap.size]? = some (.cells #[.int .u16 (before : Int), vr] 51 (0, 0)) := (heap_alloc_old _ _ (by simp)).trans (heap_alloc_new w _)
  have hr0 : ((w.alloc (.cells #[.int .u16 (before : Int), vr] 51)).alloc (.cells #[.slice none 0 0, .string ⟨#[]⟩, .string ⟨#[]⟩] 60)).heap[w.heap.size + 1]? = some (.cells #[.slice none 0 0, .string ⟨#[]⟩, .string ⟨#[]⟩] 60 (0, 0)) := by
    have := heap_alloc_new (w.alloc (.cells #[.int .u16 (before : Int), vr] 51)) (.cells #[.slice none 0 0, .string ⟨#[]⟩, .string ⟨#[]⟩] 60)
    rwa [show (w.alloc (.cells #[.int .u16 (before : Int), vr] 51)).heap.size = w.heap.size + 1 by simp] at this
  have hz0 : ((w.alloc (.cells #[.int .u16 (before : Int), vr] 51)).alloc (.cells #[.slice none 0 0, .string ⟨#[]⟩, .string ⟨#[]⟩] 60)).heap.size = w.heap.size + 2 := by simp
  have hml : (es.map mk).length = es.length := List.length_map ..
  obtain ⟨ao, cap, hv, hc1, hc2, h3⟩ := h
  subst hv
  rcases h3 with h3 | ⟨b, off, rfl, hcc⟩
  · rw [List.map_eq_nil_iff] at h3; subst h3; cases hi
  rw [hml] at hc1 hcc ⊢
  unfold maxLen at hc2
  have HS := hide (show ∀ wq, Below w.heap.size w wq → Strs wq (.slice (some ⟨b, off, none⟩) es.length cap) (es.map mk) from fun wq hb => by
    have h0 : Strs w (.slice (some ⟨b, off, none⟩) es.length cap) (es.map mk) := ⟨_, cap, by rw [hml], by omega, by unfold maxLen; omega, .inr ⟨b, off, rfl, fun i hi => hcc i (by omega)⟩⟩
    exact h0.below hb (Nat.le_refl _))
  have HR := hide (fun wq (hb : Below w.heap.size w wq) => hr.below hb (Nat.le_refl _))
  obtain ⟨aor, cpr, rfl, hr1, hr2, hr3⟩ := hr
  unfold maxLen at hr2
  have HC := hide (show ∀ wq, Below w.heap.size w wq → ∀ k, k < es.length → wq.cell? ⟨b, off + k, none⟩ = some (.string (mk (es.getD k []))) from fun wq hb k hk => by
    have := hcc k hk
    rw [mk_getD es k hk] at this
    rw [hb.cell (p := ⟨b, off + k, none⟩) (cell_lt this)]
    exact this)
  have hsz : ∀ k, k < es.length → (mk (es.getD k [])).size ≤ 20 := fun k hk => by
    rw [mk_size, List.getD_eq_getElem?_getD, List.getElem?_eq_getElem hk, Option.getD_some]
    exact hes _ (List.getElem_mem hk)
  have hll := fun wq hs => lastLink_any 0 (.slice (some ⟨b, off, none⟩) i cap) ((es.map mk).take i) wq hs (by decide) (fun k hk => by
    have hk2 : k < i ∧ k < es.length := by rw [List.length_take, hml] at hk; omega
    rw [List.getD_eq_getElem?_getD, List.getElem?_take_of_lt hk2.1, ← List.getD_eq_getElem?_getD, mk_getD es k hk2.2]
    exact Nat.le_trans (hsz k hk2.2) (by decide))
  rw [← List.map_take, bs_mk] at hll
  have hL := last_lt (es.take i) 0 (by decide)
  generalize last 0 (es.take i) = L at hll hL hc
  rw [Int.natCast_zero] at hll
  have HCC : CollAt (bs rs) (es.drop (i + 1)) c 0 (lkt before entry) (lkt L (mk (es.getD i []))) := by
    unfold CollAt
    rw [List.drop_zero, List.drop_zero, lkt_data, lkt_data, mk_data]
    exact hc.symm
  have HCC := hide HCC
  have hsl := lkt_size before entry
  have hsr := lkt_size L (mk (es.getD i []))
  have hk1 := fun wq => linked_any before entry wq hbf he
  have hk2 := fun wq => linked_any L (mk (es.getD i [])) wq hL (Nat.le_trans (hsz i hi) (by decide))
  have hszi := hsz i hi
  generalize lkt before entry = l0 at hk1 HCC hsl
  generalize lkt L (mk (es.getD i [])) = r0 at hk2 HCC hsr
  generalize hei : mk (es.getD i []) = ei at hk2 hsr hszi
  have HEI := hide hei
  clear hei
  have HZ := hide hz
  have HSZ := hide hsz
  have HB0 := hide hb0
  have HP0 := hide hp0
  have HR0 := hide hr0
  have hl1 : rs.length + i + 1 ≤ es.length := by omega
  have hl2 : es.length ≤ rs.length + i + 1 := by omega
  clear hc hcc hr3 hz hsz hes hb0 hp0 hr0 hl
  go_enter Tryd.func62, Tryd.ntmps62
  go_upto_region 1 with fail
  generalize ((w.alloc (.cells #[.int .u16 (before : Int), .slice aor rs.length cpr] 51)).alloc (.cells #[.slice none 0 0, .string ⟨#[]⟩, .string ⟨#[]⟩] 60)) = W0 at HB0 HP0 HR0 hz0 ⊢
  by_cases hcj : cap = i + 1
  · subst hcj
    have hrz : rs.length ≤ 0 := by omega
    have HE := hide ((unhide HCC).done (by rw [bs_length]; omega))
    have S0 := hide ((unhide HS W0 (unhide HB0)).cutF i (by omega))
    rw [← List.map_take] at S0
    go_wp2_with fail
    refine (hll _ (unhide S0)).mono ?_
    rintro e w1 ⟨rfl, hb1⟩
    rw [hz0] at hb1
    have hs1 := hb1.size
    have c10 : w1.cell? ⟨w.heap.size, 0, none⟩ = some (.int .u16 (before : Int)) := by rw [cell_of_row w1 _ _ _ _ _ ((hb1.block _ (by omega)).trans (unhide HP0))]; rfl
    have K1 := hide hb1
    clear hb1 S0 hll
    go_wp2_with fail
    refine (hk1 _).mono ?_
    rintro e w2 ⟨rfl, hb2⟩
    have K2 := hide ((unhide K1).trans (hb2.mono (by omega)))
    have hs2 := (unhide K2).size
    have c2 := unhide HC w2 ((unhide HB0).trans ((unhide K2).mono (by omega))) i hi
    rw [unhide HEI] at c2
    clear hb2 K1 c10 hk1
    go_wp2_with fail
    refine (hk2 _).mono ?_
    rintro e w3 ⟨rfl, hb3⟩
    have K3 := hide ((unhide K2).trans (hb3.mono (by omega)))
    have hs3 := (unhide K3).size
    clear hb3 K2 c2 hk2
    go_wp2_with fail
    refine wp_loop_rounds 1 ?_
    rw [rounds_succ]
    obtain ⟨e1, e2⟩ := unhide HE
    have R9 := hide (show w3.heap[w.heap.size + 1]? = some (.cells #[.slice none 0 0, .string ⟨#[]⟩, .string ⟨#[]⟩] 60 (0, 0)) from ((unhide K3).block _ (by omega)).trans (unhide HR0))
    have hbel9 := (unhide HB0).trans ((unhide K3).mono (by omega))
    have E1 := hide e1
    have E2 := hide e2
    clear e1 e2
    go_wp2_with ((with_reducible refine at_store ?_); go_must (refine wpList_store_row rfl 60 _ _ rfl (w.heap.size + 1) _ rfl rfl 60 _ (unhide R9) info_car rfl (car_one _ _ _ _ _) ?_))
    rw [unhide E1, unhide E2]
    refine bodyPost_ret (v := .agg #[.slice none 0 0, .string (mk c.1), .string (mk c.2)]) ?_ rfl ⟨rfl, below_rowO hbel9 (by omega) _⟩
    exact results_car1 Tryd.results62 _ _ (w.heap.size + 1) 60 _ (0, 0) _ rfl (setRow_heap _ _ _ _ _ _ (unhide R9)) Tryd.underlying60 rfl info_car
  · have hqs : ∀ k, k < rs.length → (es.drop (i + 1))[k]? = some (mk (es.getD (i + 1 + k) [])).data.toList := fun k hk => by
      rw [mk_data, List.getElem?_drop, List.getD_eq_getElem?_getD, List.getElem?_eq_getElem (by omega : i + 1 + k < es.length)]
      rfl
    have HQS := hide hqs
    clear hqs
    have S0 := hide ((unhide HS W0 (unhide HB0)).cutF i (by omega))
    rw [← List.map_take] at S0
    go_wp2_with fail
    refine (hll _ (unhide S0)).mono ?_
    rintro e w1 ⟨rfl, hb1⟩
    rw [hz0] at hb1
    have hs1 := hb1.size
    have c10 : w1.cell? ⟨w.heap.size, 0, none⟩ = some (.int .u16 (before : Int)) := by rw [cell_of_row w1 _ _ _ _ _ ((hb1.block _ (by omega)).trans (unhide HP0))]; rfl
    have K1 := hide hb1
    clear hb1 S0 hll
    go_wp2_with fail
    refine (hk1 _).mono ?_
    rintro e w2 ⟨rfl, hb2⟩
    have K2 := hide ((unhide K1).trans (hb2.mono (by omega)))
    have hs2 := (unhide K2).size
    have c2 := unhide HC w2 ((unhide HB0).trans ((unhide K2).mono (by omega))) i hi
    rw [unhide HEI] at c2
    clear hb2 K1 c10 hk1
    go_wp2_with fail
    refine (hk2 _).mono ?_
    rintro e w3 ⟨rfl, hb3⟩
    have K3 := hide ((unhide K2).trans (hb3.mono (by omega)))
    have hs3 := (unhide K3).size
    clear hb3 K2 c2 hk2
    go_wp2_with fail
    go_loopw [11, 12, 13] (fun vl vr vk wr => ∃ (k : Nat) (lb rb : ByteArray), k ≤ rs.length ∧ vl = .string lb ∧ vr = .string rb ∧ vk = .int .i64 k ∧ lb.size ≤ 140737488351234 ∧ rb.size ≤ 22 ∧ CollAt (bs rs) (es.drop (i + 1)) c k lb rb ∧ Below (w.heap.size + 2) W0 wr) (fun _ _ vk _ => rs.length - (intOf vk).toNat)
    case atStart => exact ⟨0, l0, r0, Nat.zero_le _, rfl, rfl, rfl, by omega, by omega, unhide HCC, unhide K3⟩
    case round =>
      obtain ⟨k, lb, rb, hk, rfl, rfl, rfl, hlb, hrb, hca, hbel⟩ := hrel
      have HCA := hide hca
      have hp := cell_of_row wr w.heap.size 1 _ _ _ ((hbel.block _ (by omega)).trans (unhide HP0))
      have c1 : wr.cell? ⟨w.heap.size, 1, none⟩ = some (.slice aor rs.length cpr) := hp
      have hsw := hbel.size
      have hsw' : w.heap.size + 2 ≤ wr.heap.size := by omega
      clear hca hp
      by_cases hlt : k < rs.length
      · have hd1 : decide ((k : Int) < ((es.length - (i + 1) : Nat) : Int)) = true := by simp; omega
        have hd2 : decide ((k : Int) < (rs.length : Int)) = true := by simp; omega
        have hw1 := fun wq => weak_any lb wq (by unfold maxLen; omega)
        have hw2 := fun wq => weak_any rb wq (by unfold maxLen; omega)
        have hwl1 := wk_lt lb.data.toList
        have hwl2 := wk_lt rb.data.toList
        by_cases hq : wk lb.data.toList = wk rb.data.toList
        · have HF := hide ((unhide HCA).same hq)
          rw [hq] at hw1
          generalize wk rb.data.toList = q at hw1 hw2 hwl2
          clear hwl1 hq
          obtain ⟨e1, e2⟩ := unhide HF
          have R9 := hide (show wr.heap[w.heap.size + 1]? = some (.cells #[.slice none 0 0, .string ⟨#[]⟩, .string ⟨#[]⟩] 60 (0, 0)) from (hbel.block _ (by omega)).trans (unhide HR0))
          have hbel9 := (unhide HB0).trans (hbel.mono (by omega))
          have E1 := hide e1
          have E2 := hide e2
          clear e1 e2
          go_wp2_with fail
          refine (hw1 _).mono ?_
          rintro e wz ⟨rfl, hez⟩
          have hez2 := hez.symm
          clear hez
          subst hez2
          go_wp2_with fail
          refine (hw2 _).mono ?_
          rintro e wz ⟨rfl, hez⟩
          have hez2 := hez.symm
          clear hez
          subst hez2
          have hqq : ((q : Int) == (q : Int)) = true := by simp
          go_wp2_with ((with_reducible refine at_store ?_); go_must (refine wpList_store_row rfl 60 _ _ rfl (w.heap.size + 1) _ rfl rfl 60 _ (unhide R9) info_car rfl (car_one _ _ _ _ _) ?_))
          rw [unhide E1, unhide E2]
          refine bodyPost_ret (v := .agg #[.slice none 0 0, .string (mk c.1), .string (mk c.2)]) ?_ rfl ⟨rfl, below_rowO hbel9 (by omega) _⟩
          exact results_car1 Tryd.results62 _ _ (w.heap.size + 1) 60 _ (0, 0) _ rfl (setRow_heap _ _ _ _ _ _ (unhide R9)) Tryd.underlying60 rfl info_car
        · obtain ⟨ao', cp', hev, _, _, h3⟩ := unhide HR wr ((unhide HB0).trans (hbel.mono (by omega)))
          injection hev with hev1 hev2 hev3
          rcases h3 with h3 | ⟨br, ofr, h3, hcr⟩
          · rw [h3] at hlt; cases hlt
          rw [← hev1] at h3
          subst h3
          have hps := bs_getD rs k hlt
          have hpz := unhide HZ k hlt
          have cr := hcr k hlt
          generalize rs.getD k ByteArray.empty = pk at hps hpz cr
          have hqs := unhide HQS k hlt
          have hqz := unhide HSZ (i + 1 + k) (by omega)
          have hce := fun wq hb => unhide HC wq hb (i + 1 + k) (by omega)
          generalize mk (es.getD (i + 1 + k) []) = ek at hqs hqz hce
          have HN := hide ((unhide HCA).next pk ek hps hqs hq)
          have hsl2 := lkt_size (wk lb.data.toList) pk
          have hsr2 := lkt_size (wk rb.data.toList) ek
          have hqne : (((wk lb.data.toList : Nat) : Int) == ((wk rb.data.toList : Nat) : Int)) = false := by rw [beq_eq_false_iff_ne]; omega
          generalize wk lb.data.toList = q1 at hw1 hwl1 HN hsl2 hqne
          generalize wk rb.data.toList = q2 at hw2 hwl2 HN hsr2 hqne
          have hn1 := fun wq => linked_any q1 pk wq hwl1 hpz
          have hn2 := fun wq => linked_any q2 ek wq hwl2 (Nat.le_trans hqz (by decide))
          generalize lkt q1 pk = lb2 at hn1 HN hsl2
          generalize lkt q2 ek = rb2 at hn2 HN hsr2
          clear hcr hps hqs hq hev1 hev2 hev3
          go_wp2_with fail
          refine (hw1 _).mono ?_
          rintro e wz ⟨rfl, hez⟩
          have hez2 := hez.symm
          clear hez
          subst hez2
          go_wp2_with fail
          refine (hw2 _).mono ?_
          rintro e wz ⟨rfl, hez⟩
          have hez2 := hez.symm
          clear hez
          subst hez2
          go_wp2_with fail
          refine (hn1 _).mono ?_
          rintro e w4 ⟨rfl, hb4⟩
          have K4 := hide (hbel.trans (hb4.mono hsw'))
          have ce := hce w4 ((unhide HB0).trans ((unhide K4).mono (by omega)))
          rw [← Nat.add_assoc] at ce
          have hs4 := (unhide K4).size
          clear hb4 cr c1 hw1 hw2 hn1 hce
          go_wp2_with fail
          refine (hn2 _).mono ?_
          rintro e w5 ⟨rfl, hb5⟩
          have K5 := hide ((unhide K4).trans (hb5.mono (by omega)))
          clear hb5 K4 hn2
          go_wp2
          go_roundw
          case rel => exact ⟨k + 1, lb2, rb2, by omega, rfl, rfl, by go_num, by omega, by omega, unhide HN, unhide K5⟩
          case measure => simp [intOf]; omega
      · have hd1 : decide ((k : Int) < ((es.length - (i + 1) : Nat) : Int)) = false := by simp; omega
        have HF := hide ((unhide HCA).done (by rw [bs_length]; omega))
        obtain ⟨e1, e2⟩ := unhide HF
        have R9 := hide (show wr.heap[w.heap.size + 1]? = some (.cells #[.slice none 0 0, .string ⟨#[]⟩, .string ⟨#[]⟩] 60 (0, 0)) from (hbel.block _ (by omega)).trans (unhide HR0))
        have hbel9 := (unhide HB0).trans (hbel.mono (by omega))
        have E1 := hide e1
        have E2 := hide e2
        clear e1 e2
        go_wp2_with ((with_reducible refine at_store ?_); go_must (refine wpList_store_row rfl 60 _ _ rfl (w.heap.size + 1) _ rfl rfl 60 _ (unhide R9) info_car rfl (car_one _ _ _ _ _) ?_))
        rw [unhide E1, unhide E2]
        refine bodyPost_ret (v := .agg #[.slice none 0 0, .string (mk c.1), .string (mk c.2)]) ?_ rfl ⟨rfl, below_rowO hbel9 (by omega) _⟩
        exact results_car1 Tryd.results62 _ _ (w.heap.size + 1) 60 _ (0, 0) _ rfl (setRow_heap _ _ _ _ _ _ (unhide R9)) Tryd.underlying60 rfl info_car
end Go.Proofs.YtanfolfopalbeabDoor
