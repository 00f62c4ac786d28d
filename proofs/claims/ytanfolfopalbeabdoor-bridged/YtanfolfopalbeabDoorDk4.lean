/- ferrykeep's object Disk: step: the contract. -/
import Derived.Test.YtanfolfopalbeabDoorDk3
namespace Go.Proofs.YtanfolfopalbeabDoor
open Go.RowKit

theorem bs_append (a b : List ByteArray) : bs (a ++ b) = bs a ++ bs b := by simp [bs]
theorem bs_drop (xs : List ByteArray) (k : Nat) : (bs xs).drop k = bs (xs.drop k) := by simp [bs]
theorem next_log (xs : List ByteArray) (k b m t : Nat) (ht : t = goesTo k b m) (htx : t ≤ m) : nextB (bs (xs.take m)) k b = bs ((xs.take t).drop k) ∨ m > xs.length := by
  by_cases hm : m ≤ xs.length
  · left
    unfold nextB
    rw [bs_length, List.length_take, Nat.min_eq_left hm, ← ht, bs_drop, bs_take, List.drop_take, List.take_take, Nat.min_eq_left (by omega), ← List.drop_take]
  · right
    omega
theorem log_split (xs : List ByteArray) (k t : Nat) (h : k ≤ t) : bs (xs.take k) ++ bs ((xs.take t).drop k) = bs (xs.take t) := by
  rw [← bs_append]
  congr 1
  have e : xs.take k = (xs.take t).take k := by rw [List.take_take, Nat.min_eq_left h]
  rw [e, List.take_append_drop]
/-- How Step answers where a log is carried over. -/
structure LogAt (xs : List ByteArray) (ds : List (List UInt8)) (k b m er nu : Nat) : Prop where
  std : Std ds (bs (xs.take k))
  len : ds.length = 300
  km : k < m
  mx : m ≤ xs.length
  few : xs.length ≤ 100
  small : ∀ s ∈ xs, s.size ≤ 20
  b1 : 1 ≤ b
  b2 : b ≤ 100
  how : (er = 0 ∧ m = xs.length) ∨ (er = 4 ∧ nu = m ∧ k + b ≤ m)
def toK (xs : List ByteArray) (k b : Nat) : Nat := min (k + b) xs.length
def planK (xs : List ByteArray) (ds : List (List UInt8)) (k b : Nat) : List It := planL ds (wb (bs (xs.take k))) (wb (bs ((xs.take (toK xs k b)).drop k))) (toK xs k b)
theorem LogAt.to {xs : List ByteArray} {ds : List (List UInt8)} {k b m er nu : Nat} (h : LogAt xs ds k b m er nu) : toK xs k b = goesTo k b m ∧ toK xs k b ≤ m ∧ k < toK xs k b := by
  have h1 := h.km
  have h2 := h.mx
  have h3 := h.b1
  unfold toK goesTo
  rcases h.how with ⟨_, h4⟩ | ⟨_, _, h4⟩ <;> omega
theorem LogAt.smallT {xs : List ByteArray} {ds : List (List UInt8)} {k b m er nu : Nat} (h : LogAt xs ds k b m er nu) (t : Nat) : ∀ e ∈ bs (xs.take t), e.length ≤ 20 := bs_small' _ (fun s hs => h.small s (List.mem_of_mem_take hs))
theorem LogAt.room {xs : List ByteArray} {ds : List (List UInt8)} {k b m er nu : Nat} (h : LogAt xs ds k b m er nu) : (wb (bs (xs.take k)) ++ wb (bs ((xs.take (toK xs k b)).drop k))).length ≤ 2100 := by
  have h1 := h.to
  have h2 := h.few
  have h3 := h.mx
  rw [← wb_append, log_split _ _ _ (by omega)]
  have := wb_length_le _ (h.smallT (toK xs k b))
  rw [bs_length, List.length_take] at this
  omega
theorem LogAt.step {xs : List ByteArray} {ds : List (List UInt8)} {k b m er nu : Nat} (h : LogAt xs ds k b m er nu) : stepOf (bs (xs.take m), er, nu) ds (bs (xs.take k)) b = (planK xs ds k b, 0, 0) := by
  obtain ⟨h1, h2, h3⟩ := h.to
  have h4 := h.mx
  have h5 := h.km
  have hr := h.room
  rw [List.length_append] at hr
  have hl := h.len
  have hk : (bs (xs.take k)).length = k := by rw [bs_length, List.length_take]; omega
  have hm : (bs (xs.take m)).length = m := by rw [bs_length, List.length_take]; omega
  have hn : nextB (bs (xs.take m)) k b = bs ((xs.take (toK xs k b)).drop k) := by
    rcases next_log xs k b m _ h1 h2 with h | h
    · exact h
    · omega
  unfold stepOf
  simp only [hk, hm]
  rw [if_neg (by rcases h.how with ⟨a, _⟩ | ⟨a, c, d⟩ <;> omega), if_neg (by omega), hn, if_neg (by omega), ← h1]
  rfl
theorem LogAt.plan_len {xs : List ByteArray} {ds : List (List UInt8)} {k b m er nu : Nat} (h : LogAt xs ds k b m er nu) : 0 < (planK xs ds k b).length ∧ (planK xs ds k b).length ≤ 100 := by
  have := h.room
  unfold planK
  rw [planL_length]
  unfold nW
  omega
theorem LogAt.items {xs : List ByteArray} {ds : List (List UInt8)} {k b m er nu : Nat} (h : LogAt xs ds k b m er nu) : ∀ x ∈ planK xs ds k b, x.data.length = 32 ∧ x.at_ < ds.length :=
  plan_items ds _ _ _ h.std.elem h.std.n2 (by have := h.room; have := h.len; omega)
theorem body_flush (d : List (List UInt8)) (a mo : List UInt8) (c : Nat) : (itAt (planL d a mo c) (bodyW d (a ++ mo) a.length).length).fl = true := by
  unfold itAt planL
  rw [List.getD, List.getElem?_append_right (Nat.le_refl _), Nat.sub_self]
  rfl
/-- What a crash leaves. -/
theorem LogAt.crash {xs : List ByteArray} {ds : List (List UInt8)} {k b m er nu : Nat} (h : LogAt xs ds k b m er nu) {q begun : Nat} {d' : List (List UInt8)} (hfl : ∀ j, q ≤ j → j < begun → (itAt (planK xs ds k b) j).fl = false)
    (happ : AppK (planK xs ds k b) ds q begun d') (hbg : begun ≤ (planK xs ds k b).length) : Std d' (bs (xs.take k)) ∨ Std d' (bs (xs.take (toK xs k b))) := by
  obtain ⟨f, h1, h2, rfl⟩ := happ
  have hto := h.to
  have hmx := h.mx
  have hfw := h.few
  have hkl : (bs (xs.take k)).length = k := by rw [bs_length, List.length_take]; omega
  have hml : (bs ((xs.take (toK xs k b)).drop k)).length = toK xs k b - k := by rw [bs_length, List.length_drop, List.length_take]; omega
  have hsum : (bs (xs.take k)).length + (bs ((xs.take (toK xs k b)).drop k)).length = toK xs k b := by omega
  have key := plan_crash ds (bs (xs.take k)) (bs ((xs.take (toK xs k b)).drop k)) h.std (by omega) (bs_small' _ (fun s hs => h.small s (List.mem_of_mem_take (List.mem_of_mem_drop hs)))) (by have := h.room; have := h.len; omega) f h1 begun
  rw [hsum, log_split _ _ _ (by omega)] at key
  refine (key hbg (fun hb i hi => h2 i ?_)).1
  have hB := body_flush ds (wb (bs (xs.take k))) (wb (bs ((xs.take (toK xs k b)).drop k))) (toK xs k b)
  by_cases hq : q ≤ (bodyW ds (wb (bs (xs.take k)) ++ wb (bs ((xs.take (toK xs k b)).drop k))) (wb (bs (xs.take k))).length).length
  · have := hfl _ hq (by omega)
    unfold planK at this
    rw [hB] at this
    cases this
  · omega
theorem LogAt.done {xs : List ByteArray} {ds : List (List UInt8)} {k b m er nu : Nat} (h : LogAt xs ds k b m er nu) {q : Nat} {d' : List (List UInt8)} (hfl : ∀ j, q ≤ j → j < (planK xs ds k b).length + 1 → (itAt (planK xs ds k b ++ [fIt]) j).fl = false)
    (happ : AppK (planK xs ds k b ++ [fIt]) ds q ((planK xs ds k b).length + 1) d') : Std d' (bs (xs.take (toK xs k b))) := by
  obtain ⟨f, h1, h2, rfl⟩ := happ
  have hto := h.to
  have hmx := h.mx
  have hfw := h.few
  have hkl : (bs (xs.take k)).length = k := by rw [bs_length, List.length_take]; omega
  have hml : (bs ((xs.take (toK xs k b)).drop k)).length = toK xs k b - k := by rw [bs_length, List.length_drop, List.length_take]; omega
  have hsum : (bs (xs.take k)).length + (bs ((xs.take (toK xs k b)).drop k)).length = toK xs k b := by omega
  have hq : (planK xs ds k b).length < q := by
    by_cases hq : (planK xs ds k b).length < q
    · exact hq
    · have := hfl (planK xs ds k b).length (by omega) (by omega)
      unfold itAt at this
      rw [List.getD, List.getElem?_append_right (Nat.le_refl _), Nat.sub_self] at this
      cases this
  have key := plan_crash ds (bs (xs.take k)) (bs ((xs.take (toK xs k b)).drop k)) h.std (by omega) (bs_small' _ (fun s hs => h.small s (List.mem_of_mem_take (List.mem_of_mem_drop hs)))) (by have := h.room; have := h.len; omega) f h1 (planK xs ds k b).length
  rw [hsum, log_split _ _ _ (by omega)] at key
  have hPl : (planK xs ds k b).length = (bodyW ds (wb (bs (xs.take k)) ++ wb (bs ((xs.take (toK xs k b)).drop k))) (wb (bs (xs.take k))).length).length + 3 := by
    unfold planK planL
    simp
  have := (key (Nat.le_refl _) (fun _ i hi => h2 i (by omega))).2 (by omega) (h2 _ (by omega))
  rw [List.take_of_length_le (by unfold planK; omega)] at this
  rw [List.take_of_length_le (by simp), app_append]
  exact this
set_option maxRecDepth 100000 in
set_option maxHeartbeats 3200000 in
theorem dstep_crash (w0 w : World) (G : Nat) (T : ByteArray) (vl : Value) (xs : List ByteArray) (vd : Value) (ds : List (List UInt8)) (k bt m er nu : Nat) (c : Int) (vb : Value) (zs : List Int) (hK : Dk w0 w G T vl xs vd ds k) (h : LogAt xs ds k bt m er nu)
    (hrd : rdOld T.data.toList = (bs (xs.take m), er, nu)) (hTm : T.size ≤ maxLen) (hI : Ints w vb zs) (hc : -9223372036854775808 ≤ c ∧ c ≤ 9223372036854775807) (hT : Tabs w0) :
    Calls Tryd.prog 10 #[.pointer (some ⟨G, 0, none⟩), .int .i64 bt, .int .i64 c, vb, .bool false] w fun e w' => e = .returned (.bool true) ∧ ∃ vd' ds' k', (k' = k ∨ k' = toK xs k bt) ∧ Std ds' (bs (xs.take k')) ∧ ds'.length = 300 ∧ Dk w0 w' G T vl xs vd' ds' k' := by
  have hPL := h.plan_len
  have ht1 := h.to.2.1
  have ht2 := h.to.2.2
  have hmx := h.mx
  have hfw := h.few
  have hln := h.len
  have hb1 := h.b1
  have hb2 := h.b2
  have hSR : stepR T.data.toList ds (bt : Int) = (planK xs ds k bt, 0, 0) := by
    unfold stepR
    have hde : dEnt ds = (bs (xs.take k), 0) := by unfold dEnt; rw [h.std.ok]
    rw [hde, if_neg (by simp), if_neg (by omega), hrd, Int.toNat_natCast, h.step]
  have hSt := fun wq hd => Step_any T vd ds (bt : Int) wq hTm hd
  rw [hSR] at hSt
  have HSt := hide hSt
  have HH := hide h
  have HK := hide hK
  have HT := hide hT
  have HIT := hide h.items
  have hc0 := hK.cells.c0
  have hc2 := hK.cells.c2
  have hkx : k ≤ xs.length := by omega
  have hte : toK xs k bt = min (k + bt) xs.length := rfl
  have HI := hide hI
  obtain ⟨ao, cap, hvl⟩ := own_shape hK.ownl
  subst hvl
  generalize hpe : planK xs ds k bt = pl at *
  generalize htt : toK xs k bt = t at *
  have HPE := hide hpe
  have HTT := hide htt
  clear hpe htt hSR hSt hI hT hrd
  have hr8 : w.drew.cell? ⟨G, 0, none⟩ = some (.string T) ∧ w.drew.cell? ⟨G, 2, none⟩ = some vd := ⟨hc0, hc2⟩
  clear hc0 hc2 h hK
  go_enter Tryd.func10, Tryd.ntmps10
  go_upto_region 1 with fail
  go_region_held3 (fun w' => w'.cell? ⟨G, 0, none⟩ = some (.string T) ∧ w'.cell? ⟨G, 2, none⟩ = some vd) (first | (with_reducible exact hr8) | (with_reducible exact hr9)) ((go_at_call 32; refine (unhide HSt _ ((unhide HK).digs.below ((Below.refl w.heap.size w).drew) (Nat.le_refl _))).mono ?_; rintro e w2 ⟨vp, rfl, hown2, hb2'⟩; have hr9 : w2.cell? ⟨G, 0, none⟩ = some (.string T) ∧ w2.cell? ⟨G, 2, none⟩ = some vd := ⟨((unhide HK).below (drew_bel hb2')).cells.c0, ((unhide HK).below (drew_bel hb2')).cells.c2⟩))
  have hb2 := drew_bel hb2'
  have K2 := hide ((unhide HK).below hb2)
  have P2 := hide hown2
  have I2 := hide ((unhide HI).below hb2 (Nat.le_refl _))
  obtain ⟨ap, cp, hvp⟩ := own_shape hown2
  subst hvp
  have hc1 := (unhide K2).cells.c1
  have hc3 := (unhide K2).cells.c3
  have hx1 : ((pl.length : Int) == 0) = false := by rw [beq_eq_false_iff_ne]; omega
  have hx2 : decide ((1000 : Int) < (pl.length : Int)) = false := by simp; omega
  clear hr8 hr9 hb2 hb2' hown2 HK HI HSt
  by_cases hend : xs.length < k + bt
  · have hx5 : decide ((xs.length : Int) < (k : Int) + (bt : Int)) = true := by simp; omega
    obtain rfl : t = xs.length := by omega
    clear hte
    go_wp2_with fail
    refine (pick_any c (pl.length + 1) _ hc (by omega) (by omega)).mono ?_
    rintro e w3 ⟨bg, hbg, rfl, rfl⟩
    go_wp2_with fail
    refine (written_any w0 _ G T _ xs vd ds k pl _ _ bg vb zs (unhide K2) (unhide P2) (by omega) (by omega) (by omega) (unhide HIT) (unhide I2) (by omega) (by omega)).mono ?_
    rintro e w4 ⟨rfl, vd4, q, d4, hfl, happ, hK4⟩
    have hd4 := happ.length
    have hcr : Std d4 (bs (xs.take k)) ∨ Std d4 (bs (xs.take xs.length)) := by
      have h9 := unhide HH
      rw [← unhide HTT, ← unhide HPE] at *
      exact h9.crash hfl happ (by omega)
    have K4 := hide hK4
    have HSM := hide (unhide HH).small
    clear hfl happ K2 P2 I2 hK4
    rcases hcr with hcr | hcr
    · have TL := hide (told_any w0 w4 G T _ xs vd4 d4 k k k xs.length (unhide K4) hcr hkx hfw (unhide HSM) (.inl rfl) (unhide HT))
      have HCR := hide hcr
      clear hcr
      go_wp2_with fail
      refine (unhide TL).mono ?_
      rintro e w5 ⟨rfl, hk5⟩
      go_wp2
      go_ret
      exact ⟨rfl, vd4, d4, k, .inl rfl, unhide HCR, by omega, hk5⟩
    · have TL := hide (told_any w0 w4 G T _ xs vd4 d4 k xs.length k xs.length (unhide K4) hcr (by omega) hfw (unhide HSM) (.inr rfl) (unhide HT))
      have HCR := hide hcr
      clear hcr
      go_wp2_with fail
      refine (unhide TL).mono ?_
      rintro e w5 ⟨rfl, hk5⟩
      go_wp2
      go_ret
      exact ⟨rfl, vd4, d4, xs.length, .inr rfl, unhide HCR, by omega, hk5⟩
  · have hx5 : decide ((xs.length : Int) < (k : Int) + (bt : Int)) = false := by simp; omega
    obtain rfl : t = k + bt := by omega
    clear hte
    go_wp2_with fail
    refine (pick_any c (pl.length + 1) _ hc (by omega) (by omega)).mono ?_
    rintro e w3 ⟨bg, hbg, rfl, rfl⟩
    go_wp2_with fail
    refine (written_any w0 _ G T _ xs vd ds k pl _ _ bg vb zs (unhide K2) (unhide P2) (by omega) (by omega) (by omega) (unhide HIT) (unhide I2) (by omega) (by omega)).mono ?_
    rintro e w4 ⟨rfl, vd4, q, d4, hfl, happ, hK4⟩
    have hd4 := happ.length
    have hcr : Std d4 (bs (xs.take k)) ∨ Std d4 (bs (xs.take (k + bt))) := by
      have h9 := unhide HH
      rw [← unhide HTT, ← unhide HPE] at *
      exact h9.crash hfl happ (by omega)
    have K4 := hide hK4
    have HSM := hide (unhide HH).small
    clear hfl happ K2 P2 I2 hK4
    rcases hcr with hcr | hcr
    · have TL := hide (told_any w0 w4 G T _ xs vd4 d4 k k k (k + bt) (unhide K4) hcr hkx hfw (unhide HSM) (.inl rfl) (unhide HT))
      have HCR := hide hcr
      clear hcr
      go_wp2_with fail
      refine (unhide TL).mono ?_
      rintro e w5 ⟨rfl, hk5⟩
      go_wp2
      go_ret
      exact ⟨rfl, vd4, d4, k, .inl rfl, unhide HCR, by omega, hk5⟩
    · have TL := hide (told_any w0 w4 G T _ xs vd4 d4 k (k + bt) k (k + bt) (unhide K4) hcr (by omega) hfw (unhide HSM) (.inr rfl) (unhide HT))
      have HCR := hide hcr
      clear hcr
      go_wp2_with fail
      refine (unhide TL).mono ?_
      rintro e w5 ⟨rfl, hk5⟩
      go_wp2
      go_ret
      exact ⟨rfl, vd4, d4, (k + bt), .inr rfl, unhide HCR, by omega, hk5⟩

set_option maxRecDepth 100000 in
set_option maxHeartbeats 3200000 in
theorem dstep_full (w0 w : World) (G : Nat) (T : ByteArray) (vl : Value) (xs : List ByteArray) (vd : Value) (ds : List (List UInt8)) (k bt m er nu : Nat) (hK : Dk w0 w G T vl xs vd ds k) (h : LogAt xs ds k bt m er nu)
    (hrd : rdOld T.data.toList = (bs (xs.take m), er, nu)) (hTm : T.size ≤ maxLen) (hT : Tabs w0) :
    Calls Tryd.prog 10 #[.pointer (some ⟨G, 0, none⟩), .int .i64 bt, .int .i64 0, .slice none 0 0, .bool true] w fun e w' => e = .returned (.bool true) ∧ ∃ vd' ds', Std ds' (bs (xs.take (toK xs k bt))) ∧ ds'.length = 300 ∧ Dk w0 w' G T vl xs vd' ds' (toK xs k bt) := by
  obtain ⟨i0, hi, hz0, hz1, hz2⟩ := info_parts info_wr
  have hPL := h.plan_len
  have ht1 := h.to.2.1
  have ht2 := h.to.2.2
  have hmx := h.mx
  have hfw := h.few
  have hln := h.len
  have hb1 := h.b1
  have hb2 := h.b2
  have hSR : stepR T.data.toList ds (bt : Int) = (planK xs ds k bt, 0, 0) := by
    unfold stepR
    have hde : dEnt ds = (bs (xs.take k), 0) := by unfold dEnt; rw [h.std.ok]
    rw [hde, if_neg (by simp), if_neg (by omega), hrd, Int.toNat_natCast, h.step]
  have hSt := fun wq hd => Step_any T vd ds (bt : Int) wq hTm hd
  rw [hSR] at hSt
  have HSt := hide hSt
  have HH := hide h
  have HK := hide hK
  have HT := hide hT
  have HIT := hide h.items
  have hc0 := hK.cells.c0
  have hc2 := hK.cells.c2
  have hkx : k ≤ xs.length := by omega
  have hte : toK xs k bt = min (k + bt) xs.length := rfl
  obtain ⟨ao, cap, hvl⟩ := own_shape hK.ownl
  subst hvl
  generalize hpe : planK xs ds k bt = pl at *
  generalize htt : toK xs k bt = t at *
  have HPE := hide hpe
  have HTT := hide htt
  clear hpe htt hSR hSt hT hrd
  have hr8 : w.drew.cell? ⟨G, 0, none⟩ = some (.string T) ∧ w.drew.cell? ⟨G, 2, none⟩ = some vd := ⟨hc0, hc2⟩
  clear hc0 hc2 h hK
  go_enter Tryd.func10, Tryd.ntmps10
  go_upto_region 1 with fail
  go_region_held3 (fun w' => w'.cell? ⟨G, 0, none⟩ = some (.string T) ∧ w'.cell? ⟨G, 2, none⟩ = some vd) (first | (with_reducible exact hr8) | (with_reducible exact hr9)) ((go_at_call 32; refine (unhide HSt _ ((unhide HK).digs.below ((Below.refl w.heap.size w).drew) (Nat.le_refl _))).mono ?_; rintro e w2 ⟨vp, rfl, hown2, hb2'⟩; have hr9 : w2.cell? ⟨G, 0, none⟩ = some (.string T) ∧ w2.cell? ⟨G, 2, none⟩ = some vd := ⟨((unhide HK).below (drew_bel hb2')).cells.c0, ((unhide HK).below (drew_bel hb2')).cells.c2⟩))
  have hb2 := drew_bel hb2'
  have K2 := hide ((unhide HK).below hb2)
  have P2 := hide hown2
  obtain ⟨ap, cp, hvp⟩ := own_shape hown2
  subst hvp
  have hc1 := (unhide K2).cells.c1
  have hc3 := (unhide K2).cells.c3
  have hx1 : ((pl.length : Int) == 0) = false := by rw [beq_eq_false_iff_ne]; omega
  have hx2 : decide ((1000 : Int) < (pl.length : Int)) = false := by simp; omega
  have hsz2 := hb2.size
  have HB2 := hide hb2
  clear hr8 hr9 hb2 hb2' hown2 HSt
  by_cases hend : xs.length < k + bt
  · have hx5 : decide ((xs.length : Int) < (k : Int) + (bt : Int)) = true := by simp; omega
    obtain rfl : t = xs.length := by omega
    clear hte
    go_wp2_with fail
    refine (pick_any 0 (pl.length + 1) _ (by omega) (by omega) (by omega)).mono ?_
    rintro e w3 ⟨bg, hbg, rfl, rfl⟩
    clear hbg
    go_wp2_with (at_builtin; go_must (rw [← flush34]); go_must (refine wpList_append_own _ rfl (.tmp 79) (.tmp 81) 31 rfl w.heap.size 90 i0 (.agg (itcells fIt0).toArray) 34 48 Tryd.underlying31 hi hz0 hz1 hz2 rfl (by decide) _ _ _ rfl ((unhide P2).alloc _) ⟨w3.heap.size, 0, none⟩ 1 1 (itcells fIt) rfl rfl (news_row w3 _ _ _ rfl) (itcells_one fIt) ?c3 ?c4 ?c5 ?_))
    case c3 => unfold maxLen; omega
    case c4 => omega
    case c5 => have := hsz2; simp; omega
    intro vq wq hownq hgrowq _
    have hbq : Below w.heap.size w wq := ((unhide HB2).alloc hsz2 _).grown hgrowq (by simp; omega) (own_row_ge (unhide P2))
    have KQ := hide ((unhide HK).below hbq)
    have PQ := hide (show wq.ownsRow w.heap.size 90 34 vq (pl ++ [fIt]).length (pcells (pl ++ [fIt])) by rw [pcells_snoc, List.length_append]; exact hownq)
    obtain ⟨aq, cq, hvq⟩ := own_shape hownq
    subst hvq
    clear hgrowq hbq hownq K2 P2
    go_wp2_with fail
    refine (written_any w0 _ G T _ xs vd ds k (pl ++ [fIt]) _ _ (pl.length + 1) _ [] (unhide KQ) (unhide PQ) (by simp) (by simp) (by simp; omega) (fun x hx => by
      rcases List.mem_append.1 hx with hx | hx
      · exact unhide HIT x hx
      · simp at hx; subst hx; exact ⟨rfl, show 0 < ds.length by omega⟩) (ints_nil _) (by omega) (by omega)).mono ?_
    rintro e w4 ⟨rfl, vd4, q, d4, hfl, happ, hK4⟩
    have hd4 := happ.length
    have hcr : Std d4 (bs (xs.take xs.length)) := by
      have h9 := unhide HH
      rw [← unhide HTT]
      rw [← unhide HPE] at hfl happ
      exact h9.done hfl happ
    have K4 := hide hK4
    have HSM := hide (unhide HH).small
    clear hfl happ KQ PQ hK4
    have TL := hide (told_any w0 w4 G T _ xs vd4 d4 k xs.length xs.length xs.length (unhide K4) hcr (by omega) hfw (unhide HSM) (.inl rfl) (unhide HT))
    have HCR := hide hcr
    clear hcr
    go_wp2_with fail
    refine (unhide TL).mono ?_
    rintro e w5 ⟨rfl, hk5⟩
    go_wp2
    go_ret
    exact ⟨rfl, vd4, d4, unhide HCR, by omega, hk5⟩
  · have hx5 : decide ((xs.length : Int) < (k : Int) + (bt : Int)) = false := by simp; omega
    obtain rfl : t = k + bt := by omega
    clear hte
    go_wp2_with fail
    refine (pick_any 0 (pl.length + 1) _ (by omega) (by omega) (by omega)).mono ?_
    rintro e w3 ⟨bg, hbg, rfl, rfl⟩
    clear hbg
    go_wp2_with (at_builtin; go_must (rw [← flush34]); go_must (refine wpList_append_own _ rfl (.tmp 79) (.tmp 81) 31 rfl w.heap.size 90 i0 (.agg (itcells fIt0).toArray) 34 48 Tryd.underlying31 hi hz0 hz1 hz2 rfl (by decide) _ _ _ rfl ((unhide P2).alloc _) ⟨w3.heap.size, 0, none⟩ 1 1 (itcells fIt) rfl rfl (news_row w3 _ _ _ rfl) (itcells_one fIt) ?c3 ?c4 ?c5 ?_))
    case c3 => unfold maxLen; omega
    case c4 => omega
    case c5 => have := hsz2; simp; omega
    intro vq wq hownq hgrowq _
    have hbq : Below w.heap.size w wq := ((unhide HB2).alloc hsz2 _).grown hgrowq (by simp; omega) (own_row_ge (unhide P2))
    have KQ := hide ((unhide HK).below hbq)
    have PQ := hide (show wq.ownsRow w.heap.size 90 34 vq (pl ++ [fIt]).length (pcells (pl ++ [fIt])) by rw [pcells_snoc, List.length_append]; exact hownq)
    obtain ⟨aq, cq, hvq⟩ := own_shape hownq
    subst hvq
    clear hgrowq hbq hownq K2 P2
    go_wp2_with fail
    refine (written_any w0 _ G T _ xs vd ds k (pl ++ [fIt]) _ _ (pl.length + 1) _ [] (unhide KQ) (unhide PQ) (by simp) (by simp) (by simp; omega) (fun x hx => by
      rcases List.mem_append.1 hx with hx | hx
      · exact unhide HIT x hx
      · simp at hx; subst hx; exact ⟨rfl, show 0 < ds.length by omega⟩) (ints_nil _) (by omega) (by omega)).mono ?_
    rintro e w4 ⟨rfl, vd4, q, d4, hfl, happ, hK4⟩
    have hd4 := happ.length
    have hcr : Std d4 (bs (xs.take (k + bt))) := by
      have h9 := unhide HH
      rw [← unhide HTT]
      rw [← unhide HPE] at hfl happ
      exact h9.done hfl happ
    have K4 := hide hK4
    have HSM := hide (unhide HH).small
    clear hfl happ KQ PQ hK4
    have TL := hide (told_any w0 w4 G T _ xs vd4 d4 k (k + bt) (k + bt) (k + bt) (unhide K4) hcr (by omega) hfw (unhide HSM) (.inl rfl) (unhide HT))
    have HCR := hide hcr
    clear hcr
    go_wp2_with fail
    refine (unhide TL).mono ?_
    rintro e w5 ⟨rfl, hk5⟩
    go_wp2
    go_ret
    exact ⟨rfl, vd4, d4, unhide HCR, by omega, hk5⟩
end Go.Proofs.YtanfolfopalbeabDoor
