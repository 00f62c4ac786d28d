/- translate.Proof, ferry.Translate: the contracts. -/
import Derived.Test.YtanfolfopalbeabDoorTransl0
namespace Go.Proofs.YtanfolfopalbeabDoor
open Go.RowKit

theorem rdT_facts : ∀ (f k v : Nat) (l : List UInt8), k ≤ 100 → (rd f k v l).1.length + k ≤ 100 ∧ (∀ e ∈ (rd f k v l).1, e.length ≤ 20) ∧ (rd f k v l).2.1 ≤ 4 ∧ (rd f k v l).2.2 ≤ 100 := by
  intro f
  induction f with
  | zero => intro k v l hk; exact ⟨by simpa [rd] using hk, by simp [rd], by simp [rd], by simp [rd]⟩
  | succ f ih =>
    intro k v l hk
    by_cases hl : l = []
    · subst hl
      rw [rd_end]
      exact ⟨by simpa using hk, by simp, by simp, by simp⟩
    · by_cases h1 : k = 100
      · subst h1
        rw [rd_full f v l hl]
        exact ⟨by simp, by simp, by simp, by simp⟩
      · by_cases he : rfErr l v = 0
        · rw [rd_step f k v l hl h1 he]
          obtain ⟨a, b, c, d⟩ := ih (k + 1) (rfLnk l v) (l.drop (3 + (rfEnt l v).length)) (by omega)
          refine ⟨by simp only [List.length_cons]; omega, ?_, c, d⟩
          intro e hm
          rcases List.mem_cons.1 hm with rfl | hm
          · exact (rfEnt_le l v).1
          · exact b e hm
        · rw [rd_bad f k v l hl h1 he]
          exact ⟨by simpa using hk, by simp, rfErr_le l v, hk⟩
theorem rdOldT_facts (l : List UInt8) : (rdOld l).1.length ≤ 100 ∧ (∀ e ∈ (rdOld l).1, e.length ≤ 20) ∧ (rdOld l).2.1 ≤ 4 ∧ (rdOld l).2.2 ≤ 100 := by
  unfold rdOld
  split
  · exact ⟨by simp, by simp, by simp, by simp⟩
  · have := rdT_facts l.length 0 0 l (by omega)
    exact ⟨by omega, this.2.1, this.2.2.1, this.2.2.2⟩

theorem own_baseT {w : World} {B base : Nat} {e : TypeId} {s : Nat} {v : Value} {n : Nat} {xs : List Value} (h : w.ownsRow base e s v n xs) (hB : B ≤ base) : w.ownsRow B e s v n xs := by
  obtain ⟨h1, h2⟩ := h
  refine ⟨h1, ?_⟩
  rcases h2 with h2 | ⟨g, cap, cur, h3, h4, h5⟩
  · exact .inl h2
  · exact .inr ⟨g, cap, cur, h3, Nat.le_trans hB h4, h5⟩
theorem own_sameO {w w' : World} {B : Nat} {e : TypeId} {s : Nat} {v : Value} {n : Nat} {xs : List Value} (h : w.ownsRow B e s v n xs) (hk : ∀ k, v.ownBlock = some k → w'.heap[k]? = w.heap[k]?) : w'.ownsRow B e s v n xs := by
  obtain ⟨h1, h2⟩ := h
  refine ⟨h1, ?_⟩
  rcases h2 with h2 | ⟨g, cap, cur, rfl, h3, h4, h5⟩
  · exact .inl h2
  · exact .inr ⟨g, cap, cur, rfl, h3, (hk g rfl).trans h4, h5⟩
/-- What Translate answers, of what was read: the path, the two texts, the error. -/
def trOf (es : List (List UInt8)) (er : Nat) (i : Int) (entry : ByteArray) (before : Nat) (rest : List ByteArray) : List (List UInt8) × List UInt8 × List UInt8 × Nat :=
  if er ≠ 0 then ([], [], [], er)
  else if i < 0 ∨ (es.length : Int) ≤ i then ([], [], [], 5)
  else if ovR (last 0 es) es.length i entry before rest = false then ([], [], [], 10)
  else if es.getD i.toNat [] = entry.data.toList then (pathL (es.map mk) i.toNat, [], [], 0)
  else ([], (coll (bs rest) (es.drop (i.toNat + 1)) (two before ++ entry.data.toList) (two (last 0 (es.take i.toNat)) ++ es.getD i.toNat [])).1, (coll (bs rest) (es.drop (i.toNat + 1)) (two before ++ entry.data.toList) (two (last 0 (es.take i.toNat)) ++ es.getD i.toNat [])).2, 11)
/-- What Translate answers. -/
def trR (l : List UInt8) (i : Int) (entry : ByteArray) (before : Nat) (rest : List ByteArray) : List (List UInt8) × List UInt8 × List UInt8 × Nat := trOf (rdOld l).1 (rdOld l).2.1 i entry before rest
theorem ovR_length {head : Nat} {n i : Int} {entry : ByteArray} {before : Nat} {rest : List ByteArray} (h : ovR head n i entry before rest = true) : (rest.length : Int) = n - 1 - i ∧ last (lnk before entry.data.toList) (bs rest) = head := by
  unfold ovR at h
  split at h
  · cases h
  · rename_i hh
    exact ⟨by omega, of_decide_eq_true h⟩

set_option maxRecDepth 100000 in
set_option maxHeartbeats 1600000 in
theorem tproof_any (s : ByteArray) (i : Int) (entry : ByteArray) (before : Nat) (vr : Value) (rs : List ByteArray) (w : World) (hm : s.size ≤ maxLen) (hi : -9223372036854775808 ≤ i ∧ i ≤ 9223372036854775807) (he : entry.size ≤ 140737488351232) (hbf : before < 65536) (hr : Strs w vr rs) (hz : ∀ i, i < rs.length → (rs.getD i ByteArray.empty).size ≤ 140737488351232) (hT : Tabs w) :
    Calls Tryd.prog 37 #[.string s, .int .i64 i, .string entry, .agg #[.int .u16 before, vr]] w fun e w' => ∃ v', e = .returned (.tuple #[.agg #[v', .string (mk (trR s.data.toList i entry before rs).2.1), .string (mk (trR s.data.toList i entry before rs).2.2.1)], .int .i64 (trR s.data.toList i entry before rs).2.2.2]) ∧
      w'.ownsRow w.heap.size 64 32 v' (trR s.data.toList i entry before rs).1.length (dcells (trR s.data.toList i entry before rs).1) ∧ Below w.heap.size w w' := by
  have hb0 : Below w.heap.size w ((w.alloc (.cells #[.int .u16 (before : Int), vr] 51)).alloc (.cells #[.slice none 0 0, .string ⟨#[]⟩, .string ⟨#[]⟩] 60)) := ((Below.refl _ _).alloc (Nat.le_refl _) _).alloc (by simp) _
  have hp0 : ((w.alloc (.cells #[.int .u16 (before : Int), vr] 51)).alloc (.cells #[.slice none 0 0, .string ⟨#[]⟩, .string ⟨#[]⟩] 60)).heap[w.heap.size]? = some (.cells #[.int .u16 (before : Int), vr] 51 (0, 0)) := (heap_alloc_old _ _ (by simp)).trans (heap_alloc_new w _)
  have hr0 : ((w.alloc (.cells #[.int .u16 (before : Int), vr] 51)).alloc (.cells #[.slice none 0 0, .string ⟨#[]⟩, .string ⟨#[]⟩] 60)).heap[w.heap.size + 1]? = some (.cells #[.slice none 0 0, .string ⟨#[]⟩, .string ⟨#[]⟩] 60 (0, 0)) := by
    have := heap_alloc_new (w.alloc (.cells #[.int .u16 (before : Int), vr] 51)) (.cells #[.slice none 0 0, .string ⟨#[]⟩, .string ⟨#[]⟩] 60)
    rwa [show (w.alloc (.cells #[.int .u16 (before : Int), vr] 51)).heap.size = w.heap.size + 1 by simp] at this
  have hz0 : ((w.alloc (.cells #[.int .u16 (before : Int), vr] 51)).alloc (.cells #[.slice none 0 0, .string ⟨#[]⟩, .string ⟨#[]⟩] 60)).heap.size = w.heap.size + 2 := by simp
  have HR := hide (fun wq (hb : Below w.heap.size w wq) => hr.below hb (Nat.le_refl _))
  have HT := hide (fun wq (hb : Below w.heap.size w wq) => hT.below hb (Nat.le_refl _))
  obtain ⟨aor, cpr, rfl, hr1, hr2, _⟩ := hr
  unfold maxLen at hr2
  have hrd := fun wq => read_any s wq hm
  obtain ⟨h100, hes, her, _⟩ := rdOldT_facts s.data.toList
  unfold trR
  generalize (rdOld s.data.toList).2.2 = nr at hrd
  generalize (rdOld s.data.toList).2.1 = er at hrd her ⊢
  generalize (rdOld s.data.toList).1 = es at hrd h100 hes ⊢
  have hml : (es.map mk).length = es.length := List.length_map ..
  obtain ⟨hi0, hi1⟩ := hi
  have HZ := hide hz
  have HES := hide hes
  have HB0 := hide hb0
  have HP0 := hide hp0
  have HR0 := hide hr0
  clear hz hes hb0 hp0 hr0 hT
  have hop : (Tryd.prog.info? 51).map (·.size) = some 2 := info_opf
  by_cases h1 : er = 0
  · subst h1
    by_cases h2 : i < 0
    · have HP := hide (show trOf es 0 i entry before rs = ([], [], [], 5) by unfold trOf; rw [if_neg (by decide), if_pos (.inl h2)])
      rw [unhide HP]
      have hd : decide (i < 0) = true := by simp; omega
      go_enter Tryd.func37, Tryd.ntmps37
      go_upto_region 1 with fail
      generalize ((w.alloc (.cells #[.int .u16 (before : Int), .slice aor rs.length cpr] 51)).alloc (.cells #[.slice none 0 0, .string ⟨#[]⟩, .string ⟨#[]⟩] 60)) = W0 at HB0 HP0 HR0 hz0 ⊢
      go_wp2_with fail
      refine (hrd _).mono ?_
      rintro e w1 ⟨v1, rfl, hown1, hb1⟩
      rw [hz0] at hb1 hown1
      have hs1 := hb1.size
      obtain ⟨ao1, cp1, rfl⟩ := own_shape hown1
      have R9 := hide (show w1.heap[w.heap.size + 1]? = some (.cells #[.slice none 0 0, .string ⟨#[]⟩, .string ⟨#[]⟩] 60 (0, 0)) from (hb1.block _ (by omega)).trans (unhide HR0))
      have hbel9 := (unhide HB0).trans (hb1.mono (by omega))
      go_wp2_with ((with_reducible refine at_store ?_); go_must (refine wpList_store_row rfl 60 _ _ rfl (w.heap.size + 1) _ rfl rfl 60 _ (unhide R9) info_car rfl (car_one _ _ _ _ _) ?_))
      refine bodyPost_ret (v := .tuple #[.agg #[.slice none 0 0, .string (mk []), .string (mk [])], .int .i64 5]) ?_ rfl ⟨_, rfl, World.ownsRow_nil _ _ _ _, below_rowO hbel9 (by omega) _⟩
      exact results_opf Tryd.results37 _ _ (w.heap.size + 1) 60 _ (0, 0) _ rfl (setRow_heap _ _ _ _ _ _ (unhide R9)) Tryd.underlying60 rfl info_car
    have hd : decide (i < 0) = false := by simp; omega
    by_cases h3 : (es.length : Int) ≤ i
    · have HP := hide (show trOf es 0 i entry before rs = ([], [], [], 5) by unfold trOf; rw [if_neg (by decide), if_pos (.inr h3)])
      rw [unhide HP]
      have hd2 : decide ((es.length : Int) ≤ i) = true := by simp; omega
      go_enter Tryd.func37, Tryd.ntmps37
      go_upto_region 1 with fail
      generalize ((w.alloc (.cells #[.int .u16 (before : Int), .slice aor rs.length cpr] 51)).alloc (.cells #[.slice none 0 0, .string ⟨#[]⟩, .string ⟨#[]⟩] 60)) = W0 at HB0 HP0 HR0 hz0 ⊢
      go_wp2_with fail
      refine (hrd _).mono ?_
      rintro e w1 ⟨v1, rfl, hown1, hb1⟩
      rw [hz0] at hb1 hown1
      have hs1 := hb1.size
      obtain ⟨ao1, cp1, rfl⟩ := own_shape hown1
      have R9 := hide (show w1.heap[w.heap.size + 1]? = some (.cells #[.slice none 0 0, .string ⟨#[]⟩, .string ⟨#[]⟩] 60 (0, 0)) from (hb1.block _ (by omega)).trans (unhide HR0))
      have hbel9 := (unhide HB0).trans (hb1.mono (by omega))
      go_wp2_with ((with_reducible refine at_store ?_); go_must (refine wpList_store_row rfl 60 _ _ rfl (w.heap.size + 1) _ rfl rfl 60 _ (unhide R9) info_car rfl (car_one _ _ _ _ _) ?_))
      refine bodyPost_ret (v := .tuple #[.agg #[.slice none 0 0, .string (mk []), .string (mk [])], .int .i64 5]) ?_ rfl ⟨_, rfl, World.ownsRow_nil _ _ _ _, below_rowO hbel9 (by omega) _⟩
      exact results_opf Tryd.results37 _ _ (w.heap.size + 1) 60 _ (0, 0) _ rfl (setRow_heap _ _ _ _ _ _ (unhide R9)) Tryd.underlying60 rfl info_car
    have hd2 : decide ((es.length : Int) ≤ i) = false := by simp; omega
    obtain ⟨j, rfl⟩ : ∃ j : Nat, i = (j : Int) := ⟨i.toNat, by omega⟩
    have hj : j < es.length := by omega
    have hsz : ∀ k, k < (es.map mk).length → ((es.map mk).getD k ByteArray.empty).size ≤ 20 := fun k hk => by
      rw [hml] at hk
      rw [mk_getD es k hk, mk_size, List.getD_eq_getElem?_getD, List.getElem?_eq_getElem hk, Option.getD_some]
      exact unhide HES _ (List.getElem_mem hk)
    have HLL := hide (fun vq wq hs => lastLink_any 0 vq (es.map mk) wq hs (by decide) (fun k hk => Nat.le_trans (hsz k hk) (by decide)))
    have hLL := last_lt es 0 (by decide)
    have hcv := fun (h : Nat) (wq : World) hs => cverify_any h before (es.length : Int) (j : Int) entry (.slice aor rs.length cpr) rs wq hbf (by omega) (by omega) he hs (unhide HZ)
    cases hov : ovR (last 0 es) es.length j entry before rs
    · have HP := hide (show trOf es 0 j entry before rs = ([], [], [], 10) by unfold trOf; rw [if_neg (by decide), if_neg (by omega), if_pos hov])
      rw [unhide HP]
      have hcv2 := fun wq hs => hcv (last 0 es) wq hs
      rw [hov] at hcv2
      have hll := fun vq wq hs => unhide HLL vq wq hs
      rw [bs_mk] at hll
      generalize last 0 es = L at hll hcv2 hLL
      rw [Int.natCast_zero] at hll
      clear hcv HLL hov hsz
      go_enter Tryd.func37, Tryd.ntmps37
      go_upto_region 1 with fail
      generalize ((w.alloc (.cells #[.int .u16 (before : Int), .slice aor rs.length cpr] 51)).alloc (.cells #[.slice none 0 0, .string ⟨#[]⟩, .string ⟨#[]⟩] 60)) = W0 at HB0 HP0 HR0 hz0 ⊢
      go_wp2_with fail
      refine (hrd _).mono ?_
      rintro e w1 ⟨v1, rfl, hown1, hb1⟩
      rw [hz0] at hb1 hown1
      have hs1 := hb1.size
      obtain ⟨ao1, cp1, rfl⟩ := own_shape hown1
      have S1 := hide (strs_of_own hown1)
      have K1 := hide hb1
      clear hown1 hb1
      go_wp2_with fail
      refine (hll _ _ (unhide S1)).mono ?_
      rintro e w2 ⟨rfl, hb2⟩
      have K2 := hide ((unhide K1).trans (hb2.mono (by omega)))
      have hs2 := (unhide K2).size
      have P2 := hide (((unhide K2).block _ (by omega)).trans (unhide HP0))
      clear hb2 S1 K1 hll
      go_wp2_with ((with_reducible refine at_load ?_); go_must (refine wpList_load_row rfl 51 _ rfl w.heap.size (by rfl) 51 #[.int .u16 (before : Int), .slice aor rs.length cpr] (0, 0) _ (unhide P2) Tryd.underlying51 rfl info_opf ?_))
      refine (hcv2 _ (unhide HR _ ((unhide HB0).trans ((unhide K2).mono (by omega))))).mono ?_
      rintro e w3 ⟨rfl, hb3⟩
      have hb3 := (unhide K2).trans (hb3.mono (by omega))
      clear K2 P2
      have R9 := hide (show w3.heap[w.heap.size + 1]? = some (.cells #[.slice none 0 0, .string ⟨#[]⟩, .string ⟨#[]⟩] 60 (0, 0)) from (hb3.block _ (by omega)).trans (unhide HR0))
      have hbel9 := (unhide HB0).trans (hb3.mono (by omega))
      go_wp2_with ((with_reducible refine at_store ?_); go_must (refine wpList_store_row rfl 60 _ _ rfl (w.heap.size + 1) _ rfl rfl 60 _ (unhide R9) info_car rfl (car_one _ _ _ _ _) ?_))
      refine bodyPost_ret (v := .tuple #[.agg #[.slice none 0 0, .string (mk []), .string (mk [])], .int .i64 10]) ?_ rfl ⟨_, rfl, World.ownsRow_nil _ _ _ _, below_rowO hbel9 (by omega) _⟩
      exact results_opf Tryd.results37 _ _ (w.heap.size + 1) 60 _ (0, 0) _ rfl (setRow_heap _ _ _ _ _ _ (unhide R9)) Tryd.underlying60 rfl info_car
    · obtain ⟨hrl, hla⟩ := ovR_length hov
      have hcv2 := fun wq hs => hcv (last 0 es) wq hs
      rw [hov] at hcv2
      have hll := fun vq wq hs => unhide HLL vq wq hs
      rw [bs_mk] at hll
      by_cases heq : es.getD j [] = entry.data.toList
      · have HP := hide (show trOf es 0 j entry before rs = (pathL (es.map mk) j, [], [], 0) by unfold trOf; rw [if_neg (by decide), if_neg (by omega), if_neg (by rw [hov]; decide), Int.toNat_natCast, if_pos heq])
        rw [unhide HP]
        have hck : chk (es.map mk) = 0 := by
          unfold chk
          rw [if_neg (by omega), if_neg]
          rw [List.any_eq_true]
          rintro ⟨x, hx, hx2⟩
          obtain ⟨y, hy, rfl⟩ := List.mem_map.1 hx
          have := unhide HES y hy
          rw [mk_size] at hx2
          have := of_decide_eq_true hx2
          omega
        have hpr : proveR (es.map mk) j = (pathL (es.map mk) j, 0) := by
          unfold proveR
          rw [if_neg (by omega), if_neg (by rw [hml]; omega), Int.toNat_natCast]
        have htp := fun vq wq hs ht => treeProve_any vq (es.map mk) j wq (by omega) hs ht
        rw [hpr] at htp
        simp only at htp
        have hmkE : mk (es.getD j []) = entry := by rw [heq, mk_self]
        have hmg := mk_getD es j hj
        rw [hmkE] at hmg
        have HMG := hide hmg
        generalize pathL (es.map mk) j = pth at htp
        generalize last 0 es = L at hll hcv2 hLL hla
        rw [Int.natCast_zero] at hll
        clear hcv HLL hov hsz hrl hla hck hpr heq hmkE hmg
        go_enter Tryd.func37, Tryd.ntmps37
        go_upto_region 1 with fail
        generalize ((w.alloc (.cells #[.int .u16 (before : Int), .slice aor rs.length cpr] 51)).alloc (.cells #[.slice none 0 0, .string ⟨#[]⟩, .string ⟨#[]⟩] 60)) = W0 at HB0 HP0 HR0 hz0 ⊢
        go_wp2_with fail
        refine (hrd _).mono ?_
        rintro e w1 ⟨v1, rfl, hown1, hb1⟩
        rw [hz0] at hb1 hown1
        have hs1 := hb1.size
        obtain ⟨ao1, cp1, rfl⟩ := own_shape hown1
        have S1 := hide (strs_of_own hown1)
        have K1 := hide hb1
        clear hown1 hb1
        go_wp2_with fail
        refine (hll _ _ (unhide S1)).mono ?_
        rintro e w2 ⟨rfl, hb2⟩
        have K2 := hide ((unhide K1).trans (hb2.mono (by omega)))
        have hs2 := (unhide K2).size
        have P2 := hide (((unhide K2).block _ (by omega)).trans (unhide HP0))
        have S2 := hide ((unhide S1).below hb2 (Nat.le_refl _))
        clear hb2 S1 K1 hll
        go_wp2_with ((with_reducible refine at_load ?_); go_must (refine wpList_load_row rfl 51 _ rfl w.heap.size (by rfl) 51 #[.int .u16 (before : Int), .slice aor rs.length cpr] (0, 0) _ (unhide P2) Tryd.underlying51 rfl info_opf ?_))
        refine (hcv2 _ (unhide HR _ ((unhide HB0).trans ((unhide K2).mono (by omega))))).mono ?_
        rintro e w3 ⟨rfl, hb3⟩
        have K3 := hide ((unhide K2).trans (hb3.mono (by omega)))
        have S3 := hide ((unhide S2).below hb3 (Nat.le_refl _))
        have hs3 := (unhide K3).size
        have P3 := hide (((unhide K3).block _ (by omega)).trans (unhide HP0))
        have T3 := hide (unhide HT w3 ((unhide HB0).trans ((unhide K3).mono (by omega))))
        clear hb3 K2 P2 S2
        have ce : ∃ b off, ao1 = some ⟨b, off, none⟩ ∧ w3.cell? ⟨b, off + j, none⟩ = some (.string entry) := by
          obtain ⟨ao', cp', hev, _, _, h3⟩ := unhide S3
          injection hev with hev1 hev2 hev3
          rcases h3 with h3 | ⟨b, off, h3, hcc⟩
          · rw [List.map_eq_nil_iff] at h3; subst h3; cases hj
          · refine ⟨b, off, hev1.trans h3, ?_⟩
            rw [hcc j (by rw [hml]; exact hj), unhide HMG]
        obtain ⟨b, off, rfl, ce⟩ := ce
        have hee : (entry.toList != entry.toList) = false := by simp
        go_wp2_with fail
        refine (htp _ _ (unhide S3) (unhide T3)).mono ?_
        rintro e w4 ⟨v4, rfl, hown4, hb4⟩
        obtain ⟨ao4, cp4, rfl⟩ := own_shape hown4
        have O4 := hide (own_baseT hown4 (show w.heap.size ≤ w3.heap.size by omega))
        have hb4 := (unhide K3).trans (hb4.mono (by omega))
        have hne4 : ∀ k, (Value.slice ao4 pth.length cp4).ownBlock = some k → k ≠ w.heap.size + 1 := fun k hk => by have := (hown4.lt k hk).1; omega
        clear hown4
        have R9 := hide (show w4.heap[w.heap.size + 1]? = some (.cells #[.slice none 0 0, .string ⟨#[]⟩, .string ⟨#[]⟩] 60 (0, 0)) from (hb4.block _ (by omega)).trans (unhide HR0))
        have hbel9 := (unhide HB0).trans (hb4.mono (by omega))
        go_wp2_with ((with_reducible refine at_store ?_); go_must (refine wpList_store_row rfl 60 _ _ rfl (w.heap.size + 1) _ rfl rfl 60 _ (unhide R9) info_car rfl (car_one _ _ _ _ _) ?_))
        refine bodyPost_ret (v := .tuple #[.agg #[.slice ao4 pth.length cp4, .string (mk []), .string (mk [])], .int .i64 0]) ?_ rfl ⟨_, rfl, own_sameO (unhide O4) (fun k hk => setRow_other _ _ _ _ (hne4 k hk)), below_rowO hbel9 (by omega) _⟩
        exact results_opf Tryd.results37 _ _ (w.heap.size + 1) 60 _ (0, 0) _ rfl (setRow_heap _ _ _ _ _ _ (unhide R9)) Tryd.underlying60 rfl info_car
      · have HP := hide (show trOf es 0 j entry before rs = ([], (coll (bs rs) (es.drop (j + 1)) (two before ++ entry.data.toList) (two (last 0 (es.take j)) ++ es.getD j [])).1, (coll (bs rs) (es.drop (j + 1)) (two before ++ entry.data.toList) (two (last 0 (es.take j)) ++ es.getD j [])).2, 11) by unfold trOf; rw [if_neg (by decide), if_neg (by omega), if_neg (by rw [hov]; decide), Int.toNat_natCast, if_neg heq])
        rw [unhide HP]
        have hco := fun vq wq hs hr => collision_any vq es j entry before (.slice aor rs.length cpr) rs wq hs hr hj (by omega) (unhide HES) h100 he hbf (unhide HZ) _ rfl
        generalize coll (bs rs) (es.drop (j + 1)) (two before ++ entry.data.toList) (two (last 0 (es.take j)) ++ es.getD j []) = cc at hco
        obtain ⟨c1, c2⟩ := cc
        simp only at hco ⊢
        have hmg := mk_getD es j hj
        obtain ⟨ej, hej⟩ : ∃ ej, ej = mk (es.getD j []) := ⟨_, rfl⟩
        rw [← hej] at hmg
        have hee : (entry.toList == ej.toList) = false := by
          rw [beq_eq_false_iff_ne, hej, ByteArray.toList_eq, ByteArray.toList_eq, mk_data]
          exact fun h => heq h.symm
        have HMG := hide hmg
        generalize last 0 es = L at hll hcv2 hLL hla
        rw [Int.natCast_zero] at hll
        have hc1 : ∃ l1, l1 = mk c1 := ⟨_, rfl⟩
        have hc2 : ∃ l2, l2 = mk c2 := ⟨_, rfl⟩
        obtain ⟨l1, hl1⟩ := hc1
        obtain ⟨l2, hl2⟩ := hc2
        rw [← hl1, ← hl2] at hco ⊢
        clear hcv HLL hov hsz hrl hla heq hej hmg hl1 hl2
        go_enter Tryd.func37, Tryd.ntmps37
        go_upto_region 1 with fail
        generalize ((w.alloc (.cells #[.int .u16 (before : Int), .slice aor rs.length cpr] 51)).alloc (.cells #[.slice none 0 0, .string ⟨#[]⟩, .string ⟨#[]⟩] 60)) = W0 at HB0 HP0 HR0 hz0 ⊢
        go_wp2_with fail
        refine (hrd _).mono ?_
        rintro e w1 ⟨v1, rfl, hown1, hb1⟩
        rw [hz0] at hb1 hown1
        have hs1 := hb1.size
        obtain ⟨ao1, cp1, rfl⟩ := own_shape hown1
        have S1 := hide (strs_of_own hown1)
        have K1 := hide hb1
        clear hown1 hb1
        go_wp2_with fail
        refine (hll _ _ (unhide S1)).mono ?_
        rintro e w2 ⟨rfl, hb2⟩
        have K2 := hide ((unhide K1).trans (hb2.mono (by omega)))
        have hs2 := (unhide K2).size
        have P2 := hide (((unhide K2).block _ (by omega)).trans (unhide HP0))
        have S2 := hide ((unhide S1).below hb2 (Nat.le_refl _))
        clear hb2 S1 K1 hll
        go_wp2_with ((with_reducible refine at_load ?_); go_must (refine wpList_load_row rfl 51 _ rfl w.heap.size (by rfl) 51 #[.int .u16 (before : Int), .slice aor rs.length cpr] (0, 0) _ (unhide P2) Tryd.underlying51 rfl info_opf ?_))
        refine (hcv2 _ (unhide HR _ ((unhide HB0).trans ((unhide K2).mono (by omega))))).mono ?_
        rintro e w3 ⟨rfl, hb3⟩
        have K3 := hide ((unhide K2).trans (hb3.mono (by omega)))
        have S3 := hide ((unhide S2).below hb3 (Nat.le_refl _))
        have hs3 := (unhide K3).size
        have P3 := hide (((unhide K3).block _ (by omega)).trans (unhide HP0))
        have T3 := hide (unhide HT w3 ((unhide HB0).trans ((unhide K3).mono (by omega))))
        clear hb3 K2 P2 S2
        have ce : ∃ b off, ao1 = some ⟨b, off, none⟩ ∧ w3.cell? ⟨b, off + j, none⟩ = some (.string ej) := by
          obtain ⟨ao', cp', hev, _, _, h3⟩ := unhide S3
          injection hev with hev1 hev2 hev3
          rcases h3 with h3 | ⟨b, off, h3, hcc⟩
          · rw [List.map_eq_nil_iff] at h3; subst h3; cases hj
          · refine ⟨b, off, hev1.trans h3, ?_⟩
            rw [hcc j (by rw [hml]; exact hj), unhide HMG]
        obtain ⟨b, off, rfl, ce⟩ := ce
        go_wp2_with ((with_reducible refine at_load ?_); refine wpList_load_row rfl 51 _ rfl w.heap.size (by rfl) 51 #[.int .u16 (before : Int), .slice aor rs.length cpr] (0, 0) _ (unhide P3) Tryd.underlying51 rfl info_opf ?_)
        refine (hco _ _ (unhide S3) (unhide HR _ ((unhide HB0).trans ((unhide K3).mono (by omega))))).mono ?_
        rintro e w4 ⟨rfl, hb4⟩
        have hb4 := (unhide K3).trans (hb4.mono (by omega))
        have R9 := hide (show w4.heap[w.heap.size + 1]? = some (.cells #[.slice none 0 0, .string ⟨#[]⟩, .string ⟨#[]⟩] 60 (0, 0)) from (hb4.block _ (by omega)).trans (unhide HR0))
        have hbel9 := (unhide HB0).trans (hb4.mono (by omega))
        go_wp2_with ((with_reducible refine at_store ?_); go_must (refine wpList_store_row rfl 60 _ _ rfl (w.heap.size + 1) _ rfl rfl 60 _ (unhide R9) info_car rfl (car_one _ _ _ _ _) ?_))
        refine bodyPost_ret (v := .tuple #[.agg #[.slice none 0 0, .string l1, .string l2], .int .i64 11]) ?_ rfl ⟨_, rfl, World.ownsRow_nil _ _ _ _, below_rowO hbel9 (by omega) _⟩
        exact results_opf Tryd.results37 _ _ (w.heap.size + 1) 60 _ (0, 0) _ rfl (setRow_heap _ _ _ _ _ _ (unhide R9)) Tryd.underlying60 rfl info_car
  · have HP := hide (show trOf es er i entry before rs = ([], [], [], er) by unfold trOf; rw [if_pos h1])
    rw [unhide HP]
    have hne : ((er : Int) != 0) = true := by rw [bne_iff_ne]; omega
    go_enter Tryd.func37, Tryd.ntmps37
    go_upto_region 1 with fail
    generalize ((w.alloc (.cells #[.int .u16 (before : Int), .slice aor rs.length cpr] 51)).alloc (.cells #[.slice none 0 0, .string ⟨#[]⟩, .string ⟨#[]⟩] 60)) = W0 at HB0 HP0 HR0 hz0 ⊢
    go_wp2_with fail
    refine (hrd _).mono ?_
    rintro e w1 ⟨v1, rfl, hown1, hb1⟩
    rw [hz0] at hb1 hown1
    have hs1 := hb1.size
    obtain ⟨ao1, cp1, rfl⟩ := own_shape hown1
    have R9 := hide (show w1.heap[w.heap.size + 1]? = some (.cells #[.slice none 0 0, .string ⟨#[]⟩, .string ⟨#[]⟩] 60 (0, 0)) from (hb1.block _ (by omega)).trans (unhide HR0))
    have hbel9 := (unhide HB0).trans (hb1.mono (by omega))
    go_wp2_with ((with_reducible refine at_store ?_); go_must (refine wpList_store_row rfl 60 _ _ rfl (w.heap.size + 1) _ rfl rfl 60 _ (unhide R9) info_car rfl (car_one _ _ _ _ _) ?_))
    refine bodyPost_ret (v := .tuple #[.agg #[.slice none 0 0, .string (mk []), .string (mk [])], .int .i64 er]) ?_ rfl ⟨_, rfl, World.ownsRow_nil _ _ _ _, below_rowO hbel9 (by omega) _⟩
    exact results_opf Tryd.results37 _ _ (w.heap.size + 1) 60 _ (0, 0) _ rfl (setRow_heap _ _ _ _ _ _ (unhide R9)) Tryd.underlying60 rfl info_car

set_option maxRecDepth 100000 in
set_option maxHeartbeats 800000 in
theorem Translate_any (s : ByteArray) (i : Int) (entry : ByteArray) (before : Nat) (vr : Value) (rs : List ByteArray) (w : World) (hm : s.size ≤ maxLen) (hi : -9223372036854775808 ≤ i ∧ i ≤ 9223372036854775807) (he : entry.size ≤ 140737488351232) (hbf : before < 65536) (hr : Strs w vr rs) (hz : ∀ i, i < rs.length → (rs.getD i ByteArray.empty).size ≤ 140737488351232) (hT : Tabs w) :
    Calls Tryd.prog 15 #[.string s, .int .i64 i, .string entry, .agg #[.int .u16 before, vr]] w fun e w' => ∃ v', e = .returned (.tuple #[.agg #[v', .string (mk (trR s.data.toList i entry before rs).2.1), .string (mk (trR s.data.toList i entry before rs).2.2.1)], .int .i64 (trR s.data.toList i entry before rs).2.2.2]) ∧
      w'.ownsRow w.heap.size 64 32 v' (trR s.data.toList i entry before rs).1.length (dcells (trR s.data.toList i entry before rs).1) ∧ Below w.heap.size w w' := by
  have hb0 : Below w.heap.size w ((w.alloc (.cells #[.int .u16 (before : Int), vr] 51)).alloc (.cells #[.slice none 0 0, .string ⟨#[]⟩, .string ⟨#[]⟩] 60)) := ((Below.refl _ _).alloc (Nat.le_refl _) _).alloc (by simp) _
  have hp0 : ((w.alloc (.cells #[.int .u16 (before : Int), vr] 51)).alloc (.cells #[.slice none 0 0, .string ⟨#[]⟩, .string ⟨#[]⟩] 60)).heap[w.heap.size]? = some (.cells #[.int .u16 (before : Int), vr] 51 (0, 0)) := (heap_alloc_old _ _ (by simp)).trans (heap_alloc_new w _)
  have hr0 : ((w.alloc (.cells #[.int .u16 (before : Int), vr] 51)).alloc (.cells #[.slice none 0 0, .string ⟨#[]⟩, .string ⟨#[]⟩] 60)).heap[w.heap.size + 1]? = some (.cells #[.slice none 0 0, .string ⟨#[]⟩, .string ⟨#[]⟩] 60 (0, 0)) := by
    have := heap_alloc_new (w.alloc (.cells #[.int .u16 (before : Int), vr] 51)) (.cells #[.slice none 0 0, .string ⟨#[]⟩, .string ⟨#[]⟩] 60)
    rwa [show (w.alloc (.cells #[.int .u16 (before : Int), vr] 51)).heap.size = w.heap.size + 1 by simp] at this
  have hz0 : ((w.alloc (.cells #[.int .u16 (before : Int), vr] 51)).alloc (.cells #[.slice none 0 0, .string ⟨#[]⟩, .string ⟨#[]⟩] 60)).heap.size = w.heap.size + 2 := by simp
  have HR := hide (hr.below hb0 (Nat.le_refl _))
  have HT := hide (hT.below hb0 (Nat.le_refl _))
  obtain ⟨aor, cpr, rfl, hr1, hr2, _⟩ := hr
  have htp := fun wq hr ht => tproof_any s i entry before (.slice aor rs.length cpr) rs wq hm hi he hbf hr hz ht
  generalize trR s.data.toList i entry before rs = r at htp ⊢
  obtain ⟨p, c1, c2, er⟩ := r
  simp only at htp ⊢
  have hc1 : ∃ l1, l1 = mk c1 := ⟨_, rfl⟩
  have hc2 : ∃ l2, l2 = mk c2 := ⟨_, rfl⟩
  obtain ⟨l1, hl1⟩ := hc1
  obtain ⟨l2, hl2⟩ := hc2
  rw [← hl1, ← hl2] at htp ⊢
  have HB0 := hide hb0
  have HP0 := hide hp0
  have HR0 := hide hr0
  clear hb0 hp0 hr0 hT hz hl1 hl2
  go_enter Tryd.func15, Tryd.ntmps15
  go_upto_region 1 with fail
  generalize ((w.alloc (.cells #[.int .u16 (before : Int), .slice aor rs.length cpr] 51)).alloc (.cells #[.slice none 0 0, .string ⟨#[]⟩, .string ⟨#[]⟩] 60)) = W0 at HB0 HP0 HR0 hz0 HR HT ⊢
  go_wp2_with ((with_reducible refine at_load ?_); go_must (refine wpList_load_row rfl 51 _ rfl w.heap.size (by rfl) 51 #[.int .u16 (before : Int), .slice aor rs.length cpr] (0, 0) _ (unhide HP0) Tryd.underlying51 rfl info_opf ?_))
  refine (htp _ (unhide HR) (unhide HT)).mono ?_
  rintro e w1 ⟨v1, rfl, hown1, hb1⟩
  rw [hz0] at hb1 hown1
  have hs1 := hb1.size
  obtain ⟨ao1, cp1, rfl⟩ := own_shape hown1
  have O1 := hide (own_baseT hown1 (show w.heap.size ≤ w.heap.size + 2 by omega))
  have hne1 : ∀ k, (Value.slice ao1 p.length cp1).ownBlock = some k → k ≠ w.heap.size + 1 := fun k hk => by have := (hown1.lt k hk).1; omega
  have R9 := hide (show w1.heap[w.heap.size + 1]? = some (.cells #[.slice none 0 0, .string ⟨#[]⟩, .string ⟨#[]⟩] 60 (0, 0)) from (hb1.block _ (by omega)).trans (unhide HR0))
  have hbel9 := (unhide HB0).trans (hb1.mono (by omega))
  clear hown1 hb1
  go_wp2_with ((with_reducible refine at_store ?_); go_must (refine wpList_store_row rfl 60 _ _ rfl (w.heap.size + 1) _ rfl rfl 60 _ (unhide R9) info_car rfl (car_one _ _ _ _ _) ?_))
  refine bodyPost_ret (v := .tuple #[.agg #[.slice ao1 p.length cp1, .string l1, .string l2], .int .i64 er]) ?_ rfl ⟨_, rfl, own_sameO (unhide O1) (fun k hk => setRow_other _ _ _ _ (hne1 k hk)), below_rowO hbel9 (by omega) _⟩
  exact results_opf Tryd.results15 _ _ (w.heap.size + 1) 60 _ (0, 0) _ rfl (setRow_heap _ _ _ _ _ _ (unhide R9)) Tryd.underlying60 rfl info_car
end Go.Proofs.YtanfolfopalbeabDoor
