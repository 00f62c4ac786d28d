/- package carry: Entries, Status, Format: the contracts. -/
import Derived.Test.YtanfolfopalbeaaDoorCarry2
import Derived.Test.YtanfolfopalbeaaDoorDigSame
import Derived.Test.YtanfolfopalbeaaDoorTreeRoot2
import Derived.Deep.RegionHeld3
import Derived.BigQuiet
import Derived.Deep.QuietTactic
namespace Go.Proofs.YtanfolfopalbeaaDoor
open Go.RowKit

theorem sector_eq (a b : List UInt8) (ha : a.length = 32) (hb : b.length = 32) (w : World) : Sem.run Tryd.prog (Op.equalIn 10000 126 (.agg (bcells a).toArray) (.agg (bcells b).toArray)) w = .ok (decide (a = b)) w := by
  have h := info_u8
  cases hi : Tryd.prog.info? 5 with
  | none => rw [hi] at h; cases h
  | some i =>
    have := run_equalIn_array (P := Tryd.prog) w 9999 (bcells a).toArray (bcells b).toArray Tryd.underlying126 hi
    rw [this, cells_u8, items_eq a b w _ fun j hj => by rw [ha, hb]; exact ⟨List.mem_range.1 hj, List.mem_range.1 hj⟩, all_eq a b ha hb]
theorem drew_bel {w w' : World} (h : Below w.drew.heap.size w.drew w') : Below w.heap.size w w' := ⟨h.os, h.tape, h.output, h.size, h.block⟩
theorem own_base {w : World} {B base : Nat} {e : TypeId} {s : Nat} {v : Value} {n : Nat} {xs : List Value} (h : w.ownsRow base e s v n xs) (hB : B ≤ base) : w.ownsRow B e s v n xs := by
  obtain ⟨h1, h2⟩ := h
  refine ⟨h1, ?_⟩
  rcases h2 with h2 | ⟨g, cap, cur, rfl, h3, h4⟩
  · exact .inl h2
  · exact .inr ⟨g, cap, cur, rfl, Nat.le_trans hB h3, h4⟩
/-- What Entries answers. -/
def dEnt (d : List (List UInt8)) : List (List UInt8) × Nat := match dOk d with | some es => (es, 0) | none => ([], 6)
theorem dEnt_wrong {d : List (List UInt8)} (h : d.length < 2 ∨ 300 < d.length) : dEnt d = ([], 6) := by unfold dEnt dOk; rw [if_pos h]
theorem dEnt_head {d : List (List UInt8)} (h : ¬ (d.length < 2 ∨ 300 < d.length)) (h2 : 100 < dCnt d ∨ d.getD 0 [] ≠ hd (dCnt d)) : dEnt d = ([], 6) := by unfold dEnt dOk; rw [if_neg h, if_pos h2]
theorem dEnt_in {d : List (List UInt8)} (h : ¬ (d.length < 2 ∨ 300 < d.length)) (h2 : ¬ 100 < dCnt d) (h3 : d.getD 0 [] = hd (dCnt d)) : dEnt d = rbR (dCnt d) (d.drop 1).flatten := by
  unfold dEnt dOk rbR
  rw [if_neg h, if_neg (by rw [← h3]; simp; omega)]
  all_goals (cases rb (dCnt d) (d.drop 1).flatten <;> rfl)
theorem head_cell (d0 : List UInt8) (h : d0.length = 32) : (bcells d0)[0]? = some (.int .u8 ((d0.headD 0).toNat : Int)) := by
  cases d0 with
  | nil => cases h
  | cons a r => rfl

set_option maxRecDepth 100000 in
set_option maxHeartbeats 400000 in
theorem ents_wrong (ao : Option Addr) (n cap : Nat) (w : World) (hn : n ≤ maxLen) (h : n < 2 ∨ 300 < n) :
    Calls Tryd.prog 81 #[.slice ao n cap] w fun e w' => e = .returned (.tuple #[.slice none 0 0, .int .i64 6]) ∧ w' = w := by
  unfold maxLen at hn
  by_cases h2 : n < 2
  · have hd1 : decide ((n : Int) < 2) = true := by simp; omega
    go_enter Tryd.func81, Tryd.ntmps81
    go_wp2
    go_ret2
    exact ⟨rfl, rfl⟩
  · have hd1 : decide ((n : Int) < 2) = false := by simp; omega
    have hd2 : decide ((300 : Int) < (n : Int)) = true := by simp; omega
    go_enter Tryd.func81, Tryd.ntmps81
    go_wp2
    go_ret2
    exact ⟨rfl, rfl⟩

set_option maxRecDepth 100000 in
set_option maxHeartbeats 800000 in
theorem ents_in (b off cap : Nat) (ds : List (List UInt8)) (w : World) (hD : Digs w (.slice (some ⟨b, off, none⟩) ds.length cap) ds) (h : ¬ (ds.length < 2 ∨ 300 < ds.length)) :
    Calls Tryd.prog 81 #[.slice (some ⟨b, off, none⟩) ds.length cap] w fun e w' => ∃ v', e = .returned (.tuple #[v', .int .i64 (dEnt ds).2]) ∧
      w'.ownsRow w.heap.size 9 1 v' (dEnt ds).1.length (((dEnt ds).1.map mk).map Value.string) ∧ Below w.heap.size w w' := by
  have hd1 : decide ((ds.length : Int) < 2) = false := by simp; omega
  have hd2 : decide ((300 : Int) < (ds.length : Int)) = false := by simp; omega
  have hr := digs_at hD 0 (by omega)
  have hdl := digs_len hD 0 (by omega)
  rw [Nat.zero_mul, Nat.add_zero] at hr
  have hc0 : w.cell? ⟨b, off, none⟩ = some (.int .u8 (dCnt ds : Int)) := hr 0 _ (head_cell _ hdl)
  have hcl : dCnt ds < 256 := UInt8.toNat_lt _
  have hq0 : (0 : Int) < (ds.length : Int) := by omega
  have hq1 : 0 < ds.length := by omega
  have HW := hide (fun hx => dEnt_head (d := ds) h hx)
  have HI := hide (fun hx hy => dEnt_in (d := ds) h hx hy)
  have HB := hide (fun wq hd => body_any (.slice (some ⟨b, off, none⟩) ds.length cap) ds wq hd (by omega) (by omega))
  have HD := hide hD
  have hfl := flat_length (ds.drop 1) (fun s hs => hD.1 s (List.mem_of_mem_drop hs))
  rw [List.length_drop] at hfl
  generalize dCnt ds = c at *
  generalize ds.getD 0 [] = d0 at *
  generalize (ds.drop 1).flatten = t at *
  clear hD
  by_cases hc : 100 < c
  · have hd3 : decide ((100 : Int) < (c : Int)) = true := by simp; omega
    have HE := hide (unhide HW (.inl hc))
    go_enter Tryd.func81, Tryd.ntmps81
    go_wp2
    go_quiet (fail)
    go_wp2
    go_ret2
    rw [unhide HE]
    exact ⟨_, rfl, World.ownsRow_nil _ _ _ _, below_drewN (Below.refl _ _) _⟩
  · have hd3 : decide ((100 : Int) < (c : Int)) = false := by simp; omega
    have hE := fun wq => sector_eq d0 (hd c) hdl (hd_length c) wq
    have hu := Tryd.underlying126
    have hmi := v_scm d0 hdl
    have hH := fun wq => headK_any c wq hcl
    have hr8 : w.drew.rangeAt b off (bcells d0) := hr
    go_enter Tryd.func81, Tryd.ntmps81
    go_upto_region 4 with fail
    by_cases he : d0 = hd c
    · rw [decide_eq_true he] at hE
      have HE := hide (unhide HI hc he)
      clear he
      generalize hd c = hdc at *
      go_region_held3 (fun w' => w'.rangeAt b off (bcells d0)) (first | (with_reducible exact hr8) | (with_reducible exact hr9)) ((go_at_call 110; refine (hH _).mono ?_; rintro e w7 ⟨rfl, hb7⟩; have hr9 := rangeAt_below hr8 hb7 (Nat.le_refl _)))
      have hb7' := drew_bel hb7
      clear hr hr8 hr9 hE hc0 hb7 HW HI
      go_wp2_with fail
      refine (unhide HB _ ((unhide HD).below hb7' (Nat.le_refl _))).mono ?_
      rintro e w8 ⟨rfl, hb8⟩
      have hbel8 := hb7'.trans (hb8.mono hb7'.size)
      go_wp2_with fail
      refine (readBody_any (mk t) c _ (by rw [mk_size]; omega) (by omega)).mono ?_
      rw [mk_data, ← unhide HE]
      rintro e w9 ⟨v9, rfl, hown9, hb9⟩
      have hbel9 := hbel8.trans (hb9.mono hbel8.size)
      go_wp2
      go_ret2
      exact ⟨_, rfl, own_base hown9 hbel8.size, hbel9⟩
    · rw [decide_eq_false he] at hE
      have HE := hide (unhide HW (.inr he))
      clear he
      generalize hd c = hdc at *
      go_region_held3 (fun w' => w'.rangeAt b off (bcells d0)) (first | (with_reducible exact hr8) | (with_reducible exact hr9)) ((go_at_call 110; refine (hH _).mono ?_; rintro e w7 ⟨rfl, hb7⟩; have hr9 := rangeAt_below hr8 hb7 (Nat.le_refl _)))
      have hb7' := drew_bel hb7
      clear hr hr8 hr9 hE hc0 hb7 HW HI
      go_wp2
      go_ret2
      rw [unhide HE]
      exact ⟨_, rfl, World.ownsRow_nil _ _ _ _, hb7'⟩

theorem ents_any (v : Value) (ds : List (List UInt8)) (w : World) (hD : Digs w v ds) :
    Calls Tryd.prog 81 #[v] w fun e w' => ∃ v', e = .returned (.tuple #[v', .int .i64 (dEnt ds).2]) ∧
      w'.ownsRow w.heap.size 9 1 v' (dEnt ds).1.length (((dEnt ds).1.map mk).map Value.string) ∧ Below w.heap.size w w' := by
  by_cases h : ds.length < 2 ∨ 300 < ds.length
  · rw [dEnt_wrong h]
    obtain ⟨_, ao, cap, rfl, h1, h2, _⟩ := hD
    refine (ents_wrong ao ds.length cap w (Nat.le_trans h1 h2) h).mono ?_
    rintro e w' ⟨rfl, rfl⟩
    exact ⟨_, rfl, World.ownsRow_nil _ _ _ _, Below.refl _ _⟩
  · obtain ⟨b, off, cap, rfl, _, _⟩ := digs_shape hD (by omega)
    exact ents_in b off cap ds w hD h

set_option maxRecDepth 100000 in
set_option maxHeartbeats 400000 in
theorem Entries_any (v : Value) (ds : List (List UInt8)) (w : World) (hD : Digs w v ds) :
    Calls Tryd.prog 41 #[v] w fun e w' => ∃ v', e = .returned (.tuple #[v', .int .i64 (dEnt ds).2]) ∧
      w'.ownsRow w.heap.size 9 1 v' (dEnt ds).1.length (((dEnt ds).1.map mk).map Value.string) ∧ Below w.heap.size w w' := by
  have HE := hide (ents_any v ds w hD)
  generalize dEnt ds = r at HE ⊢
  obtain ⟨es, c⟩ := r
  simp only at HE ⊢
  clear hD
  go_enter Tryd.func41, Tryd.ntmps41
  go_wp2_with fail
  refine (unhide HE).mono ?_
  rintro e w2 ⟨v2, rfl, hown2, hb2⟩
  go_wp2
  go_ret2
  exact ⟨_, rfl, hown2, hb2⟩

theorem dEnt_spec {d : List (List UInt8)} (he : ∀ s ∈ d, s.length = 32) : ((dEnt d).2 = 6 ∧ (dEnt d).1 = [] ∧ dOk d = none) ∨ ((dEnt d).2 = 0 ∧ Std d (dEnt d).1 ∧ dOk d = some (dEnt d).1) := by
  unfold dEnt
  cases h : dOk d with
  | none => exact .inl ⟨rfl, rfl, rfl⟩
  | some es => exact .inr ⟨rfl, std_of_ok he h, rfl⟩
theorem mk_small {es : List (List UInt8)} (h : ∀ e ∈ es, e.length ≤ 20) : ∀ s ∈ es.map mk, s.size ≤ 20 := by
  intro s hs
  simp only [List.mem_map] at hs
  obtain ⟨e, he, rfl⟩ := hs
  exact h e he
theorem results_row3 {P : Program} {fn : Func} {t0 p u : Tmp} {ty : TypeId} (h : fn.results = #[.tmp t0, .cell p ty, .tmp u]) (tmps : Array Value) (w : World) (g : Nat) (t : TypeId) (cs : Array Value) (fr : Nat × Nat) (d : TypeDesc)
    (hp : tmps.getD p undef = .pointer (some ⟨g, 0, none⟩)) (hg : w.heap[g]? = some (.cells cs t fr))
    (hu : P.underlying ty = some d) (hd : (match d with | .struct _ | .array _ _ => true | _ => false) = true) (hi : (P.info? ty).map (·.size) = some cs.size) :
    (results fn tmps).run P w = .ok (.tuple #[tmps.getD t0 undef, .agg cs, tmps.getD u undef]) w := by
  have hp' : tmps[p]?.getD undef = .pointer (some ⟨g, 0, none⟩) := by simpa using hp
  simp [results, h, hp', asAddr, run_loadVar_row w g t ty cs fr d hg hu hd hi]
/-- What Status answers. -/
def staRoot (d : List (List UInt8)) : List UInt8 := if (dEnt d).2 = 0 then rootL ((dEnt d).1.map mk) else z32
theorem staRoot_length (d : List (List UInt8)) : (staRoot d).length = 32 := by
  unfold staRoot
  split
  · exact rootL_length _
  · rfl
theorem sta_S {g h : Nat} {d z : List UInt8} {w : World} (hd : BRow w g 31 d) (hz : BRow w h 31 z) (hl : z.length = 32) : w.rangeAt g 0 (bcells d) ∧ w.there h 0 32 :=
  ⟨fun j v hv => by rw [Nat.zero_add, cell_of_row w g j _ _ _ hd]; simpa using hv, fun j hj => by rw [Nat.zero_add]; exact ⟨by rw [hz.cell j (by omega)]; rfl, hz.free j⟩⟩
theorem setC_row (g : Nat) (ty : TypeId) : ∀ (vs : List Value) (o : Nat) (w : World) (cs : Array Value), w.heap[g]? = some (.cells cs ty (0, 0)) → o + vs.length ≤ cs.size →
    (w.setCells g o vs).heap[g]? = some (.cells (cs.toList.take o ++ vs ++ cs.toList.drop (o + vs.length)).toArray ty (0, 0)) := by
  intro vs
  induction vs with
  | nil =>
    intro o w cs h _
    show w.heap[g]? = _
    rw [h]
    simp
  | cons v r ih =>
    intro o w cs h hl
    simp only [List.length_cons] at hl
    show ((w.setCell ⟨g, o, none⟩ v).setCells g (o + 1) r).heap[g]? = _
    rw [ih (o + 1) _ _ (heap_setCell_same w g o _ _ _ h) (by simp; omega)]
    congr 3
    rw [Array.toList_setIfInBounds]
    have hlt : o < cs.toList.length := by rw [Array.length_toList]; omega
    have e1 : (cs.toList.set o v).take (o + 1) = cs.toList.take o ++ [v] := by
      rw [List.take_succ_eq_append_getElem (by rw [List.length_set]; exact hlt), List.take_set_of_le (Nat.le_refl _)]
      simp
    rw [e1, List.drop_set_of_lt (by omega), show o + 1 + r.length = o + (v :: r).length by simp; omega]
    simp
theorem setC_other (g k : Nat) (hk : k ≠ g) : ∀ (vs : List Value) (o : Nat) (w : World), (w.setCells g o vs).heap[k]? = w.heap[k]? := by
  intro vs
  induction vs with
  | nil => intro o w; rfl
  | cons v r ih =>
    intro o w
    show ((w.setCell ⟨g, o, none⟩ v).setCells g (o + 1) r).heap[k]? = _
    rw [ih, heap_setCell_other _ _ _ _ (by exact hk)]
theorem below_setC {B g : Nat} (hg : B ≤ g) : ∀ (vs : List Value) (o : Nat) {a w : World}, Below B a w → Below B a (w.setCells g o vs) := by
  intro vs
  induction vs with
  | nil => intro o a w h; exact h
  | cons v r ih => intro o a w h; exact ih (o + 1) (h.setCell (by exact hg) v)
theorem setC_size (g : Nat) : ∀ (vs : List Value) (o : Nat) (w : World), (w.setCells g o vs).heap.size = w.heap.size := by
  intro vs
  induction vs with
  | nil => intro o w; rfl
  | cons v r ih =>
    intro o w
    show ((w.setCell ⟨g, o, none⟩ v).setCells g (o + 1) r).heap.size = _
    rw [ih]
    simp [World.setCell]
theorem brow_setC {w : World} {g : Nat} {ty : TypeId} {l l2 : List UInt8} (h : BRow w g ty l) (hl : l.length = l2.length) : BRow (w.setCells g 0 (bcells l2)) g ty l2 := by
  unfold BRow
  rw [setC_row g ty (bcells l2) 0 w _ h (by rw [bcells_size]; simp [bcells]; omega)]
  congr 3
  rw [List.take_zero, List.nil_append, List.drop_eq_nil_of_le (by simp [bcells]; omega), List.append_nil]

set_option maxRecDepth 100000 in
set_option maxHeartbeats 1600000 in
theorem status_any (v : Value) (ds : List (List UInt8)) (w : World) (hD : Digs w v ds) (hT : Tabs w) :
    Calls Tryd.prog 80 #[v] w fun e w' => e = .returned (.tuple #[.int .i64 (dEnt ds).1.length, .agg (bcells (staRoot ds)).toArray, .int .i64 (dEnt ds).2]) ∧ Below w.heap.size w w' := by
  have hbel0 : Below w.heap.size w (w.alloc (.cells (bcells z32).toArray 31)) := (Below.refl _ _).alloc (Nat.le_refl _) _
  have hres0 : (w.alloc (.cells (bcells z32).toArray 31)).heap[w.heap.size]? = some (.cells (bcells z32).toArray 31 (0, 0)) := heap_alloc_new w _
  have HD := hide (hD.below hbel0 (Nat.le_refl _))
  have HT := hide (hT.below hbel0 (Nat.le_refl _))
  have K0 := hide hbel0
  have R0 := hide hres0
  have hsp := dEnt_spec hD.1
  have hE := fun wq hd => ents_any v ds wq hd
  have hrl : staRoot ds = if (dEnt ds).2 = 0 then rootL ((dEnt ds).1.map mk) else z32 := rfl
  generalize staRoot ds = sr at hrl ⊢
  generalize hr : dEnt ds = r at hE hsp hrl ⊢
  obtain ⟨es, c⟩ := r
  simp only at hE hsp hrl ⊢
  have HRL := hide hrl
  clear hrl
  clear hD hT hbel0 hres0 hr
  rcases hsp with ⟨rfl, rfl, _⟩ | ⟨rfl, hstd, _⟩
  · have hsr : sr = z32 := by rw [unhide HRL, if_neg (by decide)]
    subst hsr
    clear HRL
    go_enter Tryd.func80, Tryd.ntmps80
    go_wp2_with fail
    rw [← z32_cells]
    refine (hE _ (unhide HD)).mono ?_
    rintro e w1 ⟨v1, rfl, hown1, hb1⟩
    have hbel1 := (unhide K0).trans (hb1.mono (unhide K0).size)
    have V1 := hide (show BRow w1 w.heap.size 31 z32 from (hb1.block _ (lt_of_block (unhide R0))).trans (unhide R0))
    have V2 := hide (v_dg z32 rfl)
    clear hb1 hE HD HT
    go_wp2_with ((with_reducible refine at_store ?_); rw [← z32_cells]; go_must (refine wpList_store_row rfl 31 _ _ rfl w.heap.size (bcells z32).toArray rfl rfl 31 _ (unhide V1) (unhide V2) rfl (bcells_one z32) ?_))
    refine bodyPost_ret (v := .tuple #[.int .i64 0, .agg (bcells z32).toArray, .int .i64 6]) ?_ rfl ⟨rfl, below_row hbel1 (Nat.le_refl _) _⟩
    exact results_row3 Tryd.results80 _ _ w.heap.size 31 _ (0, 0) _ rfl (setRow_heap _ _ _ _ _ _ (unhide V1)) Tryd.underlying31 rfl (unhide V2)
  · have hsr : sr = rootL (es.map mk) := by rw [unhide HRL, if_pos rfl]
    have hsm := mk_small hstd.small
    have hfe := hstd.few
    have hml : (es.map mk).length ≤ 100 := by simpa using hfe
    have hrt := fun wq vq hs ht => treeRoot_any vq (es.map mk) wq hs ht
    rw [show chk (es.map mk) = 0 by
      unfold chk
      rw [if_neg (by omega), if_neg]
      rw [List.any_eq_true]
      rintro ⟨s, hs, hl⟩
      have := hsm s hs
      simp at hl
      omega] at hrt
    rw [show rootR (es.map mk) = sr by
      rw [hsr]
      unfold rootR chk
      rw [if_pos]
      rw [if_neg (by omega), if_neg]
      rw [List.any_eq_true]
      rintro ⟨s, hs, hl⟩
      have := hsm s hs
      simp at hl
      omega] at hrt
    have hdl : sr.length = 32 := by rw [hsr]; exact rootL_length _
    have V2 := hide (v_dg sr hdl)
    have V3 := hide (v_z32 sr hdl)
    clear hsm HRL hsr hml hstd
    go_enter Tryd.func80, Tryd.ntmps80
    go_wp2_with fail
    rw [← z32_cells]
    refine (hE _ (unhide HD)).mono ?_
    rintro e w1 ⟨v1, rfl, hown1, hb1⟩
    have hS1 := strs_of_own (ss := es.map mk) (by simpa using hown1)
    have hbel1 := (unhide K0).trans (hb1.mono (unhide K0).size)
    have V1 := hide (show BRow w1 w.heap.size 31 z32 from (hb1.block _ (lt_of_block (unhide R0))).trans (unhide R0))
    have T1 := hide ((unhide HT).below hb1 (Nat.le_refl _))
    obtain ⟨ao, cap, hv1⟩ := own_shape hown1
    subst hv1
    have S1 := hide hS1
    clear hb1 hE HD HT hS1 hown1 K0 R0
    go_wp2_with fail
    refine (hrt _ _ (unhide S1) (unhide T1)).mono ?_
    rintro e w2 ⟨rfl, hb2⟩
    have hbel2 := hbel1.trans (hb2.mono hbel1.size)
    have g2 : BRow w2 w.heap.size 31 z32 := (hb2.block _ (lt_of_block (unhide V1))).trans (unhide V1)
    have hl2 := lt_of_block g2
    have G2 := hide g2
    clear hb2 hrt S1 T1 hbel1 V1 g2
    go_upto_region 5 with ((with_reducible refine at_store ?_); go_must (refine wpList_store_row rfl 31 _ _ rfl w2.heap.size (bcells sr).toArray rfl rfl 31 _ (heap_alloc_new w2 _) (unhide V2) (unhide V3) (bcells_one sr) ?_))
    rw [← z32_cells]
    have hbel3 : Below w.heap.size w ((w2.alloc (.cells (bcells z32).toArray 31)).setRow w2.heap.size (bcells sr).toArray) := below_row (hbel2.alloc hbel2.size _) hbel2.size _
    have g3 : BRow ((w2.alloc (.cells (bcells z32).toArray 31)).setRow w2.heap.size (bcells sr).toArray) w2.heap.size 31 sr := heap_put_new _ _ _ _
    have g4 : BRow ((w2.alloc (.cells (bcells z32).toArray 31)).setRow w2.heap.size (bcells sr).toArray) w.heap.size 31 z32 := (heap_put_old w2 _ _ _ _ hl2).trans (unhide G2)
    generalize ((w2.alloc (.cells (bcells z32).toArray 31)).setRow w2.heap.size (bcells sr).toArray) = W3 at hbel3 g3 g4 ⊢
    have hne : w2.heap.size ≠ w.heap.size := by omega
    generalize w2.heap.size = g at g3 hne ⊢
    have g5 : BRow (W3.drew.setCells w.heap.size 0 (bcells sr)) w.heap.size 31 sr := brow_setC (w := W3.drew) g4 (by rw [hdl]; rfl)
    have hbel5 : Below w.heap.size w (W3.drew.setCells w.heap.size 0 (bcells sr)) := below_setC (Nat.le_refl _) _ _ hbel3.drew
    have hr8 := sta_S (w := W3.drew) g3 g4 rfl
    have hr9 := sta_S (show BRow (W3.drew.setCells w.heap.size 0 (bcells sr)) g 31 sr from (setC_other _ _ hne _ _ _).trans g3) g5 hdl
    have G5 := hide g5
    have B5 := hide hbel5
    have hu := Tryd.underlying31
    have hmi := v_mid sr hdl
    have hcl : (bcells sr).length = 32 := by simp [bcells, hdl]
    have hone := bcells_one' sr
    clear g3 g4 g5 hbel3 hbel5 hbel2 G2 V3
    go_region_held3 (fun w' => w'.rangeAt g 0 (bcells sr) ∧ w'.there w.heap.size 0 32) (first | (with_reducible exact hr8) | (with_reducible exact hr9)) (fail)
    generalize W3.drew.setCells w.heap.size 0 (bcells sr) = W5 at *
    go_wp2
    refine bodyPost_ret (v := .tuple #[.int .i64 es.length, .agg (bcells sr).toArray, .int .i64 0]) ?_ rfl ⟨rfl, unhide B5⟩
    exact results_row3 Tryd.results80 _ _ w.heap.size 31 _ (0, 0) _ rfl (unhide G5) Tryd.underlying31 rfl (unhide V2)
end Go.Proofs.YtanfolfopalbeaaDoor
