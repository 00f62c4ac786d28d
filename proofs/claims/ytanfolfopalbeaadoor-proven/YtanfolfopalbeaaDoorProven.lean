import Derived.Test.YtanfolfopalbeaaDoorTreeVerify
import Derived.Deep.RegionHeld3
import Derived.Deep.CutRange
import Derived.Laws.AppendOwnNone
namespace Go.Proofs.YtanfolfopalbeaaDoor
open Go.RowKit

theorem range_of_brow {w : World} {g : Nat} {t : TypeId} {d : List UInt8} (h : BRow w g t d) : w.rangeAt g 0 (bcells d) := fun j v hv => by
  rw [Nat.zero_add, cell_of_row w g j _ _ _ h]
  simpa using hv
theorem drew_below {w w' : World} (h : Below w.drew.heap.size w.drew w') : Below w.heap.size w w' := ⟨h.os, h.tape, h.output, h.size, h.block⟩
theorem dcells_one (ps : List (List UInt8)) : ∀ u ∈ dcells ps, u.oneCell' = true := by
  intro u hu
  simp only [dcells, List.mem_flatMap] at hu
  obtain ⟨d, _, hd⟩ := hu
  exact bcells_one' d u hd
theorem info_mid : (Tryd.prog.info? 31).map (·.size) = some 32 := info_dg
theorem reads_below {GR b o B : Nat} {R : List UInt8} {x : ByteArray} {w w' : World} (h : w.rangeAt GR 0 (bcells R) ∧ w.cell? ⟨b, o, none⟩ = some (.string x)) (hb : Below B w w') (hB : w.heap.size ≤ B) :
    w'.rangeAt GR 0 (bcells R) ∧ w'.cell? ⟨b, o, none⟩ = some (.string x) :=
  ⟨rangeAt_below h.1 hb hB, by rw [hb.cell (p := ⟨b, o, none⟩) (Nat.lt_of_lt_of_le (cell_lt h.2) hB)]; exact h.2⟩

set_option maxRecDepth 100000 in
set_option maxHeartbeats 3200000 in
theorem proven_some (v : Value) (ss : List ByteArray) (c1 : Int) (w : World) (hS : Strs w v ss) (hsz : ∀ i, i < ss.length → (ss.getD i ByteArray.empty).size ≤ maxLen)
    (h1 : -9223372036854775808 ≤ c1 ∧ c1 ≤ 9223372036854775807) (hT : Tabs w) (hne : ss ≠ []) :
    Calls Tryd.prog 7 #[v, .int .i64 c1] w fun e w' => e = .returned (.bool true) ∧ Below w.heap.size w w' := by
  have HS := hide hS
  have HZ := hide hsz
  have HT := hide (fun wq hb => hT.below (w' := wq) (B := w.heap.size) hb (Nat.le_refl _))
  have HNE := hide hne
  clear hS hsz hne
  go_enter Tryd.func7, Tryd.ntmps7
  go_wp2_with fail
  refine (entries_any v ss _ (unhide HS) (unhide HZ)).mono ?_
  rintro e w1 ⟨v1, rfl, hown1, hb1⟩
  have hxl : (ents ss (min 100 ss.length)).length ≤ 100 := by rw [ents_length]; omega
  have hxz := ents_small ss (min 100 ss.length)
  have hxn : 0 < (ents ss (min 100 ss.length)).length := by
    rw [ents_length]
    have : 0 < ss.length := List.length_pos_iff.2 (unhide HNE)
    omega
  generalize ents ss (min 100 ss.length) = xs at hown1 hxl hxz hxn
  have hS1 := strs_of_own hown1
  obtain ⟨b, off, cap, hv1, hcap⟩ := strs_shape hS1 (by intro h; rw [h] at hxn; simp at hxn)
  subst hv1
  have hbel1 := hb1
  have HX := hide hxz
  have S1 := hide hS1
  clear hown1 hS1 hb1 HS HZ HNE hT
  go_wp2_with fail
  refine (known_any _ (unhide HT _ hbel1)).mono ?_
  rintro e w2 ⟨rfl, hb2⟩
  have hbel2 := hbel1.trans (hb2.mono hbel1.size)
  have S2 := hide ((unhide S1).below hb2 (Nat.le_refl _))
  clear S1 hb2 hbel1
  have hx0 : ((xs.length : Int) == 0) = false := by rw [beq_eq_false_iff_ne]; omega
  have hck := chk_of xs hxl hxz
  have hRt := fun wq hs ht => Root_any (.slice (some ⟨b, off, none⟩) xs.length cap) xs wq hs ht
  rw [rootR_of xs hxl hxz, hck] at hRt
  have dR := rootL_length xs
  have HRE := hide (rfl : rootL xs = rootL xs)
  generalize hre : rootL xs = R at hRt dR
  clear HRE
  have HRE := hide hre
  have VR := hide (v_dg R dR)
  have ZR := hide (v_z32 R dR)
  have HRt := hide hRt
  have HCK := hide hck
  clear hre hRt hxz hck
  go_wp2_with fail
  refine (unhide HRt _ (unhide S2) (unhide HT _ hbel2)).mono ?_
  rintro e w3 ⟨rfl, hb3⟩
  have hbel3 := hbel2.trans (hb3.mono hbel2.size)
  have S3 := hide ((unhide S2).below hb3 (Nat.le_refl _))
  clear HRt S2 hb3 hbel2
  go_wp2_with ((with_reducible refine at_store ?_); refine wpList_store_row rfl 31 _ _ rfl w3.heap.size (bcells R).toArray rfl rfl 31 _ (heap_alloc_new w3 _) (unhide VR) (unhide ZR) (bcells_one R) ?_)
  rw [← z32_cells]
  have hbA := below_put w3 (bcells z32).toArray (bcells R).toArray 31
  have gR : BRow ((w3.alloc (.cells (bcells z32).toArray 31)).setRow w3.heap.size (bcells R).toArray) w3.heap.size 31 R := heap_put_new _ _ _ _
  generalize ((w3.alloc (.cells (bcells z32).toArray 31)).setRow w3.heap.size (bcells R).toArray) = W4 at hbA gR ⊢
  have hbel4 := hbel3.trans (hbA.mono hbel3.size)
  have S4 := hide ((unhide S3).below hbA (Nat.le_refl _))
  generalize w3.heap.size = GR at gR ⊢
  have G4 := hide (range_of_brow gR)
  clear S3 hbA gR hbel3
  refine (pick_any c1 xs.length _ h1 hxn (by omega)).mono ?_
  rintro e w5 ⟨k, hk, rfl, he⟩
  cases he
  obtain ⟨x, hx⟩ : ∃ x, x = xs.getD k ByteArray.empty := ⟨_, rfl⟩
  have hxs : x.size ≤ 20 := by
    rw [hx, List.getD, List.getElem?_eq_getElem hk]
    exact unhide HX _ (List.getElem_mem hk)
  have hcx := strs_cell (unhide S4) k hk
  rw [← hx] at hcx
  have hpr : proveR xs (k : Int) = (pathL xs k, 0) := by
    unfold proveR
    rw [if_neg (by rw [unhide HCK]; simp), if_neg (by omega), Int.toNat_natCast]
  have hpn : proveR xs (xs.length : Int) = ([], 5) := by
    unfold proveR
    rw [if_neg (by rw [unhide HCK]; simp), if_pos (by omega)]
  have hP1 := fun wq hs ht => Prove_any (.slice (some ⟨b, off, none⟩) xs.length cap) xs k wq (by omega) hs ht
  have hP2 := fun wq hs ht => Prove_any (.slice (some ⟨b, off, none⟩) xs.length cap) xs xs.length wq (by omega) hs ht
  rw [hpr] at hP1
  rw [hpn] at hP2
  have hpe := pathL_elem xs.length xs k (Nat.le_refl _)
  have hpl := pathL_length xs.length xs k (Nat.le_refl _) hk
  have hps := path_small 7 xs.length k (by omega)
  have hcl := climb_path xs.length xs k (Nat.le_refl _) hk
  rw [← hx, unhide HRE] at hcl
  have hlen1 : (pathL xs k).length = 0 → xs.length = 1 := by
    intro h0
    rw [hpl] at h0
    by_cases h2 : xs.length < 2
    · omega
    · exfalso
      by_cases hh : k < half xs.length
      · rw [plen_left _ _ (by omega) hh] at h0; omega
      · rw [plen_right _ _ (by omega) hh] at h0; omega
  have hV := fun (n i : Int) (vp : Value) (ps : List (List UInt8)) wq hn hi hd ht => Verify_any R n i x vp ps wq hn hi dR (by omega) hd ht
  have hv1 : verR R (xs.length : Int) (k : Int) x (pathL xs k) = true := by
    rw [verR_in R xs.length k x _ (by omega), decide_eq_true hpl, decide_eq_true hcl]
    rfl
  have hv2 : verR R (xs.length : Int) (xs.length : Int) x (pathL xs k) = false := verR_out _ _ _ _ _ (by omega)
  have hv3 : verR R (xs.length : Int) (k : Int) x (pathL xs k ++ [R]) = false := by
    rw [verR_in R xs.length k x _ (by omega), decide_eq_false (by rw [List.length_append, hpl]; simp), Bool.false_and]
  have hv4 : 0 < (pathL xs k).length → verR R (xs.length : Int) (k : Int) x ((pathL xs k).take ((pathL xs k).length - 1)) = false := by
    intro h0
    rw [verR_in R xs.length k x _ (by omega), decide_eq_false (by rw [List.length_take]; omega), Bool.false_and]
  have hp7 : (pathL xs k).length ≤ 7 := by omega
  generalize pathL xs k = ps at *
  have HP1 := hide hP1
  have HP2 := hide hP2
  have HV := hide hV
  have HPE := hide hpe
  have HV1 := hide hv1
  have HV2 := hide hv2
  have HV3 := hide hv3
  have HV4 := hide hv4
  have HL1 := hide hlen1
  have X4 := hide hcx
  clear hP1 hP2 hV hpe hv1 hv2 hv3 hv4 hlen1 hpl hps hcl hpr hpn hx hcx HX HCK HRE
  go_wp2_with fail
  refine (unhide HP1 _ (unhide S4) (unhide HT _ hbel4)).mono ?_
  rintro e w6 ⟨vp, rfl, hown6, hb6⟩
  have hbel6 := hbel4.trans (hb6.mono hbel4.size)
  have S6 := hide ((unhide S4).below hb6 (Nat.le_refl _))
  have hr6 := reads_below ⟨unhide G4, unhide X4⟩ hb6 (Nat.le_refl _)
  have O6 := hide hown6
  have D6 := hide (digs_of_own (unhide HPE) hown6 rfl)
  have hu := Tryd.underlying31
  have hmi := v_mid R dR
  have hk0 : (0 : Int) ≤ (k : Int) := by omega
  have hk1 : (k : Int) < (xs.length : Int) := by omega
  clear hown6 hb6 S4 G4 X4 hbel4 HP1
  have hB8 := hbel6.drew
  have hr8 := reads_below hr6 ((Below.refl w6.heap.size w6).drew) (Nat.le_refl _)
  have hd8 := (unhide D6).below ((Below.refl w6.heap.size w6).drew) (Nat.le_refl _)
  have HD8 := hide hd8
  have HB8 := hide hB8
  clear hd8 hB8
  go_upto_region 8 with fail
  go_region_held3 (fun w' => w'.rangeAt GR 0 (bcells R) ∧ w'.cell? ⟨b, off + k, none⟩ = some (.string x)) (first | (with_reducible exact hr8) | (with_reducible exact hr9)) ((go_at_call 29; refine (unhide HV (xs.length : Int) (k : Int) vp ps _ (by omega) (by omega) (unhide HD8) (unhide HT _ (unhide HB8))).mono ?_; rw [unhide HV1]; rintro e w7 ⟨rfl, hb7⟩; have hr9 := reads_below hr8 hb7 (Nat.le_refl _)))
  have hb7' := drew_below hb7
  have hbel7 := hbel6.trans (hb7'.mono hbel6.size)
  have S7 := hide ((unhide S6).below hb7' (Nat.le_refl _))
  have O7 := hide (own_keep (unhide O6) hb7')
  have R7 := hide hr9
  clear hr6 hr8 hr9 hb7 hb7' O6 D6 S6 HD8 HB8 hbel6
  go_wp2_with fail
  refine (unhide HP2 _ (unhide S7) (unhide HT _ hbel7)).mono ?_
  rintro e w8 ⟨vq, rfl, hown8, hb8⟩
  obtain ⟨aq, cq, hvq⟩ := own_shape hown8
  subst hvq
  have hbel8 := hbel7.trans (hb8.mono hbel7.size)
  have O8 := hide (own_keep (unhide O7) hb8)
  have S8 := hide ((unhide S7).below hb8 (Nat.le_refl _))
  have hr6 := reads_below (unhide R7) hb8 (Nat.le_refl _)
  clear hown8 hb8 O7 R7 HP2 S7
  have hr8 := reads_below hr6 ((Below.refl w8.heap.size w8).drew) (Nat.le_refl _)
  have HD8 := hide ((digs_of_own (unhide HPE) (unhide O8) rfl).below ((Below.refl w8.heap.size w8).drew) (Nat.le_refl _))
  have HB8 := hide hbel8.drew
  go_upto_region 10 with fail
  go_region_held3 (fun w' => w'.rangeAt GR 0 (bcells R) ∧ w'.cell? ⟨b, off + k, none⟩ = some (.string x)) (first | (with_reducible exact hr8) | (with_reducible exact hr9)) ((go_at_call 29; refine (unhide HV (xs.length : Int) (xs.length : Int) vp ps _ (by omega) (by omega) (unhide HD8) (unhide HT _ (unhide HB8))).mono ?_; rw [unhide HV2]; rintro e w9 ⟨rfl, hb9⟩; have hr9 := reads_below hr8 hb9 (Nat.le_refl _)))
  have hb9' := drew_below hb9
  have hbel9 := hbel8.trans (hb9'.mono hbel8.size)
  have O9 := hide (own_keep (unhide O8) hb9')
  have S9 := hide ((unhide S8).below hb9' (Nat.le_refl _))
  have R9 := hide hr9
  clear hr6 hr8 hr9 hb9 hb9' O8 S8 HD8 HB8 hbel8
  go_upto_region 14 with fail
  obtain ⟨i0, hi, hz0, hz1, hz2⟩ := info_parts info_dig
  go_cut [16] from 99 to 101 (fun p wx => wx.ownsRow w9.heap.size 31 32 p ps.length (dcells ps) ∧ Below w9.heap.size w9 wx)
  case first =>
    have hO := unhide O9
    rcases hO.2 with ⟨hv0, hn0⟩ | ⟨g, capp, cur, hvg, _⟩
    · subst hv0
      have hps0 : ps = [] := List.eq_nil_of_length_eq_zero hn0
      subst hps0
      go_wp2_with (at_builtin; go_must (refine wpList_append_own_none rfl (.tmp 99) (.tmp 100) 50 rfl w9.heap.size 31 i0 32 Tryd.underlying50 hi _ 0 [] rfl (World.ownsRow_nil _ _ _ _) rfl ?_))
      go_meet
      exact ⟨World.ownsRow_nil _ _ _ _, Below.refl _ _⟩
    · subst hvg
      have HN := hide (hO.cells (g := g) rfl)
      have HL := hide hO.1
      clear hO
      go_wp2_with (at_builtin; go_must (refine wpList_append_own _ rfl (.tmp 99) (.tmp 100) 50 rfl w9.heap.size 31 i0 (.agg (bcells z32).toArray) 32 32 Tryd.underlying50 hi hz0 hz1 hz2 rfl (by decide) _ 0 [] rfl (World.ownsRow_nil _ _ _ _) ⟨g, 0, none⟩ ps.length capp (dcells ps) rfl (unhide HL) (unhide HN) (dcells_one ps) ?c3 ?c4 (Nat.le_refl _) ?_))
      case c3 => unfold maxLen; omega
      case c4 => omega
      intro v3 wz hown3 hgrow3 _
      have hbz : Below w9.heap.size w9 wz := (Below.refl _ _).grown hgrow3 (Nat.le_refl _) (fun k hk => by cases hk)
      clear hgrow3
      go_wp2_with fail
      go_meet
      exact ⟨hown3, hbz⟩
  case rest =>
    obtain ⟨hown10, hb10⟩ := hcut
    have R10 := hide (reads_below (unhide R9) hb10 (Nat.le_refl _))
    have VM := hide hmi
    have hbcl : (bcells R).length = 32 := by simp [bcells, dR]
    have hl10 := hb10.size
    have HW := hide hown10
    clear hown10
    go_wp2_with (first | ((with_reducible refine at_load ?_); refine wpList_load_mid rfl 31 _ rfl GR 0 (by rfl) (bcells R) _ (unhide R10).1 Tryd.underlying31 rfl (unhide VM) ?_) | (at_builtin; rw [← z32_cells, fold_dig R dR]; go_must (refine wpList_append_own _ rfl (.tmp 102) (.tmp 104) 50 rfl w9.heap.size 31 i0 (.agg (bcells z32).toArray) 32 32 Tryd.underlying50 hi hz0 hz1 hz2 rfl (by decide) _ _ _ rfl ((unhide HW).alloc _) ⟨wc.heap.size, 0, none⟩ 1 1 (bcells R) rfl (bcells_news R dR) ?d2 (bcells_one' R) ?d3 ?d4 ?d5 ?_)))
    case d2 => exact news_new _ R _ _ rfl
    case d3 => unfold maxLen; omega
    case d4 => omega
    case d5 => simp; omega
    intro v11 w11 hown11 hgrow11 _
    have hb11 : Below w9.heap.size w9 w11 := (hb10.alloc hb10.size _).grown hgrow11 (by simp; omega) (own_row_ge (unhide HW))
    have hown12 : w11.ownsRow w9.heap.size 31 32 v11 (ps ++ [R]).length (dcells (ps ++ [R])) := by rw [dcells_snoc, List.length_append]; exact hown11
    have hbel11 := hbel9.trans (hb11.mono hbel9.size)
    have hpe2 : ∀ d ∈ ps ++ [R], d.length = 32 := by
      intro d hd
      rw [List.mem_append, List.mem_singleton] at hd
      rcases hd with hd | rfl
      · exact unhide HPE d hd
      · exact dR
    have O11 := hide (own_keep (unhide O9) hb11)
    have hr6 := reads_below (unhide R9) hb11 (Nat.le_refl _)
    have hr8 := reads_below hr6 ((Below.refl w11.heap.size w11).drew) (Nat.le_refl _)
    have HD8 := hide ((digs_of_own hpe2 hown12 rfl).below ((Below.refl w11.heap.size w11).drew) (Nat.le_refl _))
    have HB8 := hide hbel11.drew
    clear hown11 hown12 hgrow11 hb10 hb11 R10 HW O9 S9 R9 hpe2 hl10
    go_upto_region 16 with fail
    go_region_held3 (fun w' => w'.rangeAt GR 0 (bcells R) ∧ w'.cell? ⟨b, off + k, none⟩ = some (.string x)) (first | (with_reducible exact hr8) | (with_reducible exact hr9)) ((go_at_call 29; refine (unhide HV (xs.length : Int) (k : Int) v11 (ps ++ [R]) _ (by omega) (by omega) (unhide HD8) (unhide HT _ (unhide HB8))).mono ?_; rw [unhide HV3]; rintro e w12 ⟨rfl, hb12⟩; have hr9 := reads_below hr8 hb12 (Nat.le_refl _)))
    have hb12' := drew_below hb12
    have hbel12 := hbel11.trans (hb12'.mono hbel11.size)
    have O12 := hide (own_keep (unhide O11) hb12')
    have R12 := hide hr9
    clear hr6 hr8 hr9 hb12 hb12' O11 HD8 HB8 hbel11
    by_cases hp0 : ps.length = 0
    · obtain ⟨ap, cp, hvp⟩ := own_shape (unhide O12)
      subst hvp
      have hxe := unhide HL1 hp0
      rw [hp0]
      rw [hxe]
      clear hx0 hxl hcap hk hk1 hxn hxe
      go_wp2
      go_ret
      exact ⟨rfl, hbel12⟩
    · obtain ⟨bp, op, cp, hvp, hcp, hcm⟩ := digs_shape (digs_of_own (unhide HPE) (unhide O12) rfl) (by omega)
      subst hvp
      have hd0 : ((ps.length : Int) == 0) = false := by rw [beq_eq_false_iff_ne]; omega
      have f1 : (1 : Int) ≤ (ps.length : Int) := by omega
      have f2 : (ps.length : Int) - 1 ≤ (cp : Int) := by omega
      have f3 : (0 : Int) ≤ (ps.length : Int) - 1 := by omega
      have f4 : ((ps.length : Int) - 1).toNat = ps.length - 1 := by omega
      have fW : IntKind.i64.wrap ((ps.length : Int) - 1) = (ps.length : Int) - 1 := i64w _ (by omega)
      have hr6 := unhide R12
      have hr8 := reads_below hr6 ((Below.refl w12.heap.size w12).drew) (Nat.le_refl _)
      have HD8 := hide (((digs_of_own (unhide HPE) (unhide O12) rfl).front (ps.length - 1) (by omega)).below ((Below.refl w12.heap.size w12).drew) (Nat.le_refl _))
      have HB8 := hide hbel12.drew
      have hv4 := unhide HV4 (by omega)
      have HV5 := hide hv4
      clear hv4 HV4 O12 R12 hr6
      go_upto_region 19 with fail
      go_region_held3 (fun w' => w'.rangeAt GR 0 (bcells R) ∧ w'.cell? ⟨b, off + k, none⟩ = some (.string x)) (first | (with_reducible exact hr8) | (with_reducible exact hr9)) ((go_at_call 29; refine (unhide HV (xs.length : Int) (k : Int) _ (ps.take (ps.length - 1)) _ (by omega) (by omega) (unhide HD8) (unhide HT _ (unhide HB8))).mono ?_; rw [unhide HV5]; rintro e w13 ⟨rfl, hb13⟩; have hr9 := reads_below hr8 hb13 (Nat.le_refl _)))
      have hb13' := drew_below hb13
      have hbel13 := hbel12.trans (hb13'.mono hbel12.size)
      go_wp2
      go_ret
      exact ⟨rfl, hbel13⟩

set_option maxRecDepth 100000 in
set_option maxHeartbeats 800000 in
theorem proven_none (v : Value) (c1 : Int) (w : World) (hS : Strs w v []) (hT : Tabs w) :
    Calls Tryd.prog 7 #[v, .int .i64 c1] w fun e w' => e = .returned (.bool true) ∧ Below w.heap.size w w' := by
  have HS := hide hS
  have HT := hide (fun wq hb => hT.below (w' := wq) (B := w.heap.size) hb (Nat.le_refl _))
  clear hS hT
  have dR := rootR_length []
  have hRt := fun v wq hs ht => Root_any v [] wq hs ht
  rw [show chk [] = 0 from rfl] at hRt
  generalize rootR [] = R at dR hRt
  have VR := hide (v_dg R dR)
  have ZR := hide (v_z32 R dR)
  have HRt := hide hRt
  clear hRt
  go_enter Tryd.func7, Tryd.ntmps7
  go_wp2_with fail
  refine (entries_any v [] _ (unhide HS) (fun i h => absurd h (Nat.not_lt_zero i))).mono ?_
  rw [show ents [] (min 100 [].length) = [] from rfl]
  rintro e w1 ⟨v1, rfl, hown1, hb1⟩
  have S1 := hide (strs_of_own (ss := []) hown1)
  obtain ⟨ao, cap, hv1⟩ := own_shape hown1
  subst hv1
  clear hown1
  go_wp2_with fail
  refine (known_any _ (unhide HT _ hb1)).mono ?_
  rintro e w2 ⟨rfl, hb2⟩
  have hbel2 := hb1.trans (hb2.mono hb1.size)
  have S2 := hide ((unhide S1).below hb2 (Nat.le_refl _))
  go_wp2_with fail
  refine (unhide HRt _ _ (unhide S2) (unhide HT _ hbel2)).mono ?_
  rintro e w3 ⟨rfl, hb3⟩
  have hbel3 := hbel2.trans (hb3.mono hbel2.size)
  go_wp2_with ((with_reducible refine at_store ?_); refine wpList_store_row rfl 31 _ _ rfl w3.heap.size (bcells R).toArray rfl rfl 31 _ (heap_alloc_new w3 _) (unhide VR) (unhide ZR) (bcells_one R) ?_)
  go_ret
  exact ⟨rfl, below_row (hbel3.alloc hbel3.size _) hbel3.size _⟩
theorem proven_any (v : Value) (ss : List ByteArray) (c1 : Int) (w : World) (hS : Strs w v ss) (hsz : ∀ i, i < ss.length → (ss.getD i ByteArray.empty).size ≤ maxLen)
    (h1 : -9223372036854775808 ≤ c1 ∧ c1 ≤ 9223372036854775807) (hT : Tabs w) :
    Calls Tryd.prog 7 #[v, .int .i64 c1] w fun e w' => e = .returned (.bool true) ∧ Below w.heap.size w w' := by
  by_cases hne : ss = []
  · subst hne
    exact proven_none v c1 w hS hT
  · exact proven_some v ss c1 w hS hsz h1 hT hne
end Go.Proofs.YtanfolfopalbeaaDoor
