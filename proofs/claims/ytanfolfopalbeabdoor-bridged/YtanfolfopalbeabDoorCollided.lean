/- Collided: the contract. -/
import Derived.Test.YtanfolfopalbeabDoorLinked
import Derived.Test.YtanfolfopalbeabDoorTransl
import Derived.Deep.RegionWith
namespace Go.Proofs.YtanfolfopalbeabDoor
open Go.RowKit

theorem opf_new (w : World) (cs cs' : Array Value) (t : TypeId) : Below w.heap.size w ((w.alloc (.cells cs t)).setRow w.heap.size cs') ∧ ((w.alloc (.cells cs t)).setRow w.heap.size cs').heap[w.heap.size]? = some (.cells cs' t (0, 0)) ∧ ((w.alloc (.cells cs t)).setRow w.heap.size cs').heap.size = w.heap.size + 1 :=
  ⟨below_rowO ((Below.refl _ _).alloc (Nat.le_refl _) _) (Nat.le_refl _) _, setRow_heap _ _ _ _ _ _ (heap_alloc_new w _), by simp [World.setRow]⟩
theorem cell_of_opf {w : World} {g : Nat} {b : Nat} {v : Value} (h : w.heap[g]? = some (.cells #[.int .u16 (b : Int), v] 51 (0, 0))) : w.cell? ⟨g, 0, none⟩ = some (.int .u16 (b : Int)) ∧ w.cell? ⟨g, 1, none⟩ = some v :=
  ⟨by rw [cell_of_row w g _ _ _ _ h]; rfl, by rw [cell_of_row w g _ _ _ _ h]; rfl⟩
theorem cell_of_car {w : World} {g : Nat} {a b c : Value} (h : w.heap[g]? = some (.cells #[a, b, c] 60 (0, 0))) : w.cell? ⟨g, 0, none⟩ = some a ∧ w.cell? ⟨g, 1, none⟩ = some b ∧ w.cell? ⟨g, 2, none⟩ = some c :=
  ⟨by rw [cell_of_row w g _ _ _ _ h]; rfl, by rw [cell_of_row w g _ _ _ _ h]; rfl, by rw [cell_of_row w g _ _ _ _ h]; rfl⟩
theorem OldSum_bel (s : ByteArray) (w : World) (hs : s.size ≤ maxLen) : Calls Tryd.prog 13 #[.string s] w fun e w' => e = .returned (.int .u16 (wk s.data.toList)) ∧ Below w.heap.size w w' := by
  refine (OldSum_any s w hs).mono ?_
  rintro e w' ⟨rfl, rfl⟩
  exact ⟨rfl, Below.refl _ _⟩
/-- The proof of the last entry, and the head. -/
theorem opR_last (xs : List ByteArray) (h0 : 0 < xs.length) (hl : xs.length ≤ 100) (hz : ∀ s ∈ xs, s.size ≤ 20) : opR xs ((xs.length : Int) - 1) = (last 0 (bs (xs.take (xs.length - 1))), [], 0) := by
  have hc : chkI xs ((xs.length : Int) - 1) = 0 := by
    unfold chkI
    rw [chk_of xs hl hz, if_neg (by decide), if_neg (by omega)]
  unfold opR
  rw [hc, if_neg (by decide), show ((xs.length : Int) - 1).toNat = xs.length - 1 by omega, List.drop_of_length_le (by omega)]
theorem head_last (xs : List ByteArray) (h0 : 0 < xs.length) : wk (two (last 0 (bs (xs.take (xs.length - 1)))) ++ (xs.getD (xs.length - 1) ByteArray.empty).data.toList) = last 0 (bs xs) := by
  have h1 := bs_take_succ xs (xs.length - 1) (by omega)
  rw [show xs.length - 1 + 1 = xs.length by omega, List.take_of_length_le (Nat.le_refl _)] at h1
  rw [h1, last_snoc]
  rfl
/-- What Translate answers of a log that was written. -/
theorem trR_own (xs : List ByteArray) (hl : xs.length ≤ 100) (hz : ∀ s ∈ xs, s.size ≤ 20) (i : Int) (entry : ByteArray) (before : Nat) (rs : List ByteArray) : trR (olog 0 (bs xs)) i entry before rs = trOf (bs xs) 0 i entry before rs := by
  unfold trR
  rw [read_back (bs xs) (bs_small xs hz) (by rw [bs_length]; exact hl)]

theorem coll_heads {a b : Nat} {x y : List UInt8} (h : two a ++ x = two b ++ y) : y = x := by
  have := congrArg (List.drop 2) h
  rw [List.drop_left' (two_length a), List.drop_left' (two_length b)] at this
  exact this.symm
theorem coll_size : ∀ (ps qs : List (List UInt8)) (l r : List UInt8) (m : Nat), (∀ e ∈ ps, e.length + 2 ≤ m) → (∀ e ∈ qs, e.length + 2 ≤ m) → l.length ≤ m → r.length ≤ m → (coll ps qs l r).1.length ≤ m ∧ (coll ps qs l r).2.length ≤ m := by
  intro ps
  induction ps with
  | nil => intro qs l r m _ _ h1 h2; rw [coll_nil]; exact ⟨h1, h2⟩
  | cons p ps ih =>
    intro qs l r m hp hq h1 h2
    cases qs with
    | nil => simp only [coll]; exact ⟨h1, h2⟩
    | cons q qs =>
      by_cases hw : wk l = wk r
      · rw [coll_same _ _ _ _ hw]; exact ⟨h1, h2⟩
      · rw [coll_next _ _ _ _ _ _ hw]
        have a1 := hp p (by simp)
        have a2 := hq q (by simp)
        exact ih qs _ _ m (fun e he => hp e (by simp [he])) (fun e he => hq e (by simp [he])) (by rw [List.length_append, two_length]; omega) (by rw [List.length_append, two_length]; omega)

set_option maxRecDepth 100000 in
set_option maxHeartbeats 1600000 in
theorem collided_none (v : Value) (c1 : Int) (entry : ByteArray) (before : Nat) (vr : Value) (rs : List ByteArray) (w : World) (hS : Strs w v []) (he : entry.size ≤ 140737488351232) (hbf : before < 65536) (hr : Strs w vr rs) (hz : ∀ i, i < rs.length → (rs.getD i ByteArray.empty).size ≤ 140737488351232) (hT : Tabs w) :
    Calls Tryd.prog 5 #[v, .int .i64 c1, .string entry, .int .u16 before, vr] w fun e w' => e = .returned (.bool true) ∧ Below w.heap.size w w' := by
  have HS := hide hS
  have HT := hide (fun wq (hb : Below w.heap.size w wq) => hT.below hb (Nat.le_refl _))
  have HR := hide (fun wq (hb : Below w.heap.size w wq) => hr.below hb (Nat.le_refl _))
  have HZ := hide hz
  obtain ⟨aor, cpr, rfl, _, _, _⟩ := hr
  clear hS hT hz
  go_enter Tryd.func5, Tryd.ntmps5
  go_wp2_with fail
  refine (entries_any v [] _ (unhide HS) (fun i hi => by cases hi)).mono ?_
  rintro e w1 ⟨v1, rfl, hown1, hb1⟩
  have hx : ents [] (min 100 ([] : List ByteArray).length) = [] := rfl
  rw [hx] at hown1
  have S1 := hide (strs_of_own hown1)
  obtain ⟨ao1, cp1, rfl⟩ := own_shape hown1
  clear hown1 hx
  go_wp2_with fail
  refine (WriteOld_any _ [] _ (unhide S1)).mono ?_
  rw [show chk [] = 0 from rfl, show wrText [] = ⟨#[]⟩ from rfl]
  rintro e w2 ⟨rfl, hb2⟩
  have K2 := hide (hb1.trans (hb2.mono hb1.size))
  clear hb1 hb2 S1
  go_wp2_with fail
  refine (known_any _ (unhide HT _ (unhide K2))).mono ?_
  rintro e w3 ⟨rfl, hb3⟩
  have K3 := hide ((unhide K2).trans (hb3.mono (unhide K2).size))
  have W4 := opf_new w3 #[.int .u16 0, .slice none 0 0] #[.int .u16 (before : Int), .slice aor rs.length cpr] 51
  clear hb3 K2
  go_upto_region 7 with ((with_reducible refine at_store ?_); go_must (refine wpList_store_row rfl 51 _ _ rfl w3.heap.size #[.int .u16 (before : Int), .slice aor rs.length cpr] rfl rfl 51 _ (heap_alloc_new w3 _) info_opf rfl (opf_one _ _ _ _) ?_))
  generalize (w3.alloc (.cells #[.int .u16 0, .slice none 0 0] 51)).setRow w3.heap.size #[.int .u16 (before : Int), .slice aor rs.length cpr] = w4 at W4 ⊢
  obtain ⟨hb4, hp4, hz4⟩ := W4
  have K4 := hide ((unhide K3).trans (hb4.mono (unhide K3).size))
  have P4 := hide hp4
  have htr := fun wq hr ht => Translate_any ⟨#[]⟩ 0 entry before (.slice aor rs.length cpr) rs wq (by unfold maxLen; decide) (by decide) he hbf hr (unhide HZ) ht
  have hte : trR (ByteArray.mk #[]).data.toList 0 entry before rs = ([], [], [], 5) := by
    unfold trR trOf
    rw [show rdOld (ByteArray.mk #[]).data.toList = ([], 0, 0) from rfl]
    rw [if_neg (by decide), if_pos (by simp)]
  rw [hte] at htr
  simp only at htr
  have hl2 : ∃ l, l = mk [] := ⟨_, rfl⟩
  obtain ⟨l2, hl2⟩ := hl2
  rw [← hl2] at htr
  clear hb4 hp4 K3 hte hl2
  go_wp2_with ((with_reducible refine at_load ?_); refine wpList_load_row rfl 51 _ rfl w3.heap.size (by rfl) 51 #[.int .u16 (before : Int), .slice aor rs.length cpr] (0, 0) _ (unhide P4) Tryd.underlying51 rfl info_opf ?_)
  refine (htr _ (unhide HR _ (unhide K4)) (unhide HT _ (unhide K4))).mono ?_
  rintro e w5 ⟨v5, rfl, hown5, hb5⟩
  obtain ⟨ao5, cp5, rfl⟩ := own_shape hown5
  have K5 := hide ((unhide K4).trans (hb5.mono (unhide K4).size))
  have W6 := opf_new w5 #[.slice none 0 0, .string ⟨#[]⟩, .string ⟨#[]⟩] #[.slice ao5 ([] : List (List UInt8)).length cp5, .string l2, .string l2] 60
  clear hown5 hb5 K4 htr
  go_upto_region 9 with ((with_reducible refine at_store ?_); go_must (refine wpList_store_row rfl 60 _ _ rfl w5.heap.size #[.slice ao5 ([] : List (List UInt8)).length cp5, .string l2, .string l2] rfl rfl 60 _ (heap_alloc_new w5 _) info_car rfl (car_one _ _ _ _ _) ?_))
  have K6 := hide ((unhide K5).trans (W6.1.mono (unhide K5).size))
  clear W6
  go_wp2
  go_ret
  exact ⟨rfl, unhide K6⟩

set_option maxRecDepth 100000 in
set_option maxHeartbeats 3200000 in
theorem collided_some (v : Value) (ss : List ByteArray) (c1 : Int) (entry : ByteArray) (before : Nat) (vr : Value) (rs : List ByteArray) (w : World) (hS : Strs w v ss) (hsz : ∀ i, i < ss.length → (ss.getD i ByteArray.empty).size ≤ maxLen) (h1 : -9223372036854775808 ≤ c1 ∧ c1 ≤ 9223372036854775807) (he : entry.size ≤ 140737488351232) (hbf : before < 65536) (hr : Strs w vr rs) (hz : ∀ i, i < rs.length → (rs.getD i ByteArray.empty).size ≤ 140737488351232) (hT : Tabs w) (hne : ss ≠ []) :
    Calls Tryd.prog 5 #[v, .int .i64 c1, .string entry, .int .u16 before, vr] w fun e w' => e = .returned (.bool true) ∧ Below w.heap.size w w' := by
  have HS := hide hS
  have HSZ := hide hsz
  have HNE := hide hne
  have HT := hide (fun wq (hb : Below w.heap.size w wq) => hT.below hb (Nat.le_refl _))
  have HR := hide (fun wq (hb : Below w.heap.size w wq) => hr.below hb (Nat.le_refl _))
  have HZ := hide hz
  obtain ⟨aor, cpr, rfl, _, _, _⟩ := hr
  clear hS hT hz hsz hne
  go_enter Tryd.func5, Tryd.ntmps5
  go_wp2_with fail
  refine (entries_any v ss _ (unhide HS) (unhide HSZ)).mono ?_
  rintro e w1 ⟨v1, rfl, hown1, hb1⟩
  have hxl : (ents ss (min 100 ss.length)).length ≤ 100 := by rw [ents_length]; omega
  have hxz := ents_small ss (min 100 ss.length)
  have hxn : 0 < (ents ss (min 100 ss.length)).length := by
    rw [ents_length]
    have : 0 < ss.length := List.length_pos_iff.2 (unhide HNE)
    omega
  generalize ents ss (min 100 ss.length) = xs at hown1 hxl hxz hxn
  have hS1 := strs_of_own hown1
  obtain ⟨b, off, cap, hv1, hcap⟩ := strs_shape hS1 (by intro h; rw [h] at hxn; simp at hxn)
  subst hv1
  have hck := chk_of xs hxl hxz
  have hwt : wrText xs = mk (olog 0 (bs xs)) := by unfold wrText; rw [if_pos hck]; rfl
  have hlen := olog_szs xs 0
  have hsl := szs_le xs hxz
  have HX := hide hxz
  have HCK := hide hck
  have HWT := hide hwt
  have S1 := hide (fun wq (hb : Below w1.heap.size w1 wq) => hS1.below hb (Nat.le_refl _))
  have HB1 := hide hb1
  have hTz : (mk (olog 0 (bs xs))).size ≤ 2300 := by rw [mk_size, hlen]; omega
  have hxs : ∀ k, k < xs.length → (xs.getD k ByteArray.empty).size ≤ 20 := fun k hk => by
    rw [List.getD_eq_getElem?_getD, List.getElem?_eq_getElem hk, Option.getD_some]
    exact hxz _ (List.getElem_mem hk)
  have HXS := hide hxs
  have HTR := hide (fun (i : Int) => trR_own xs hxl hxz i entry before rs)
  have HOP := hide (opR_last xs hxn hxl hxz)
  have HHL := hide (head_last xs hxn)
  have hLl := last_lt (bs (xs.take (xs.length - 1))) 0 (by decide)
  have HTD := hide (show (mk (olog 0 (bs xs))).data.toList = olog 0 (bs xs) from mk_data _)
  have HHD := last_lt (bs xs) 0 (by decide)
  clear hown1 hxz hck hwt hlen hS1 hb1 hxs
  go_wp2_with fail
  refine (WriteOld_any _ xs _ (unhide S1 w1 (Below.refl _ _))).mono ?_
  rw [unhide HCK, unhide HWT]
  rintro e w2 ⟨rfl, hb2⟩
  generalize mk (olog 0 (bs xs)) = T at hTz HTD ⊢
  have K2 := hide hb2
  clear hb2 HWT
  go_wp2_with fail
  refine (known_any _ (unhide HT _ ((unhide HB1).trans ((unhide K2).mono (unhide HB1).size)))).mono ?_
  rintro e w3 ⟨rfl, hb3⟩
  have K3 := hide ((unhide K2).trans (hb3.mono (unhide K2).size))
  have W4 := opf_new w3 #[.int .u16 0, .slice none 0 0] #[.int .u16 (before : Int), .slice aor rs.length cpr] 51
  have hx0 : ((xs.length : Int) == 0) = false := by rw [beq_eq_false_iff_ne]; omega
  clear hb3 K2
  go_upto_region 7 with ((with_reducible refine at_store ?_); go_must (refine wpList_store_row rfl 51 _ _ rfl w3.heap.size #[.int .u16 (before : Int), .slice aor rs.length cpr] rfl rfl 51 _ (heap_alloc_new w3 _) info_opf rfl (opf_one _ _ _ _) ?_))
  generalize (w3.alloc (.cells #[.int .u16 0, .slice none 0 0] 51)).setRow w3.heap.size #[.int .u16 (before : Int), .slice aor rs.length cpr] = w4 at W4 ⊢
  obtain ⟨hb4, hp4, hz4⟩ := W4
  have K4 := hide ((unhide K3).trans (hb4.mono (unhide K3).size))
  have P4 := hide hp4
  generalize hGP : w3.heap.size = GP at P4 hz4 ⊢
  clear hb4 hp4 K3 hGP
  go_wp2_with fail
  refine (pick_any c1 xs.length _ h1 hxn (by omega)).mono ?_
  rintro e w5 ⟨k, hk, rfl, he5⟩
  have he5' := he5.symm
  clear he5
  subst he5'
  have hop := fun vq wq hs => OldProve_any vq xs ((xs.length : Int) - 1) wq (by omega) hs
  rw [unhide HOP] at hop
  simp only at hop
  have HHL' := unhide HHL
  generalize last 0 (bs (xs.take (xs.length - 1))) = hL at hop hLl HHL'
  have HHL2 := hide HHL'
  clear HHL' HHL HOP
  go_wp2_with fail
  refine (hop _ _ (unhide S1 w4 (unhide K4))).mono ?_
  rintro e w5 ⟨v5, rfl, hown5, hb5⟩
  obtain ⟨ao5, cp5, rfl⟩ := own_shape hown5
  have K5 := hide ((unhide K4).trans (hb5.mono (unhide K4).size))
  have P5 := hide ((hb5.block _ (by omega)).trans (unhide P4))
  have W6 := opf_new w5 #[.int .u16 0, .slice none 0 0] #[.int .u16 (hL : Int), .slice ao5 ([] : List ByteArray).length cp5] 51
  clear hown5 hb5 K4 P4 hop
  go_upto_region 12 with ((with_reducible refine at_store ?_); go_must (refine wpList_store_row rfl 51 _ _ rfl w5.heap.size #[.int .u16 (hL : Int), .slice ao5 ([] : List ByteArray).length cp5] rfl rfl 51 _ (heap_alloc_new w5 _) info_opf rfl (opf_one _ _ _ _) ?_))
  generalize (w5.alloc (.cells #[.int .u16 0, .slice none 0 0] 51)).setRow w5.heap.size #[.int .u16 (hL : Int), .slice ao5 ([] : List ByteArray).length cp5] = w6 at W6 ⊢
  obtain ⟨hb6, hp6, hz6⟩ := W6
  have K6 := hide ((unhide K5).trans (hb6.mono (unhide K5).size))
  have P6 := hide ((hb6.block _ (lt_of_block (unhide P5))).trans (unhide P5))
  have c60 := (cell_of_opf hp6).1
  have hz6' : w5.heap.size < w6.heap.size := by omega
  clear hb6 hp6 K5 P5 hz6
  obtain ⟨xl, hxle⟩ : ∃ xl, xl = xs.getD (xs.length - 1) ByteArray.empty := ⟨_, rfl⟩
  have HHD2 := unhide HHL2
  have hxlz := unhide HXS (xs.length - 1) (by omega)
  have cX : ∀ wq, Below w1.heap.size w1 wq → wq.cell? ⟨b, off + (xs.length - 1), none⟩ = some (.string xl) := fun wq hb => by
    obtain ⟨ao', cp', hev, _, _, h3⟩ := unhide S1 wq hb
    injection hev with hev1 hev2 hev3
    rcases h3 with h3 | ⟨b', off', h3, hcc⟩
    · rw [h3] at hxn; cases hxn
    · rw [← hev1] at h3
      injection h3 with h3
      injection h3 with h4 h5
      rw [h4, h5, hxle]
      exact hcc (xs.length - 1) (by omega)
  rw [← hxle] at hxlz HHD2
  have HHD3 := hide (show (ByteArray.mk (two hL).toArray ++ xl).data.toList = two hL ++ xl.data.toList by simp)
  have hcx6 := cX w6 (unhide K6)
  have hcx7 : ∀ o, (w6.alloc o).cell? ⟨b, off + (xs.length - 1), none⟩ = some (.string xl) := fun o => cX _ ((unhide K6).alloc (unhide K6).size o)
  have hcx8 : w6.drew.cell? ⟨b, off + (xs.length - 1), none⟩ = some (.string xl) := hcx6
  have hcx9 : ∀ o, (w6.alloc o).drew.cell? ⟨b, off + (xs.length - 1), none⟩ = some (.string xl) := hcx7
  have hcv := str_of_two Tryd.prog w6 57 9 5 5 hL hLl Tryd.underlying57 Tryd.underlying5 Tryd.underlying9
  have hcd : (convert 57 9 (.slice (some ⟨w6.heap.size, 0, none⟩) 2 2)).run Tryd.prog (w6.alloc (.cells #[.int .u8 (hL / 256), .int .u8 (hL % 256)] 5)).drew = .ok (.string ⟨(two hL).toArray⟩) (w6.alloc (.cells #[.int .u8 (hL / 256), .int .u8 (hL % 256)] 5)).drew := str_of_two Tryd.prog w6.drew 57 9 5 5 hL hLl Tryd.underlying57 Tryd.underlying5 Tryd.underlying9
  have hw1 : IntKind.u8.wrap ((hL : Int) / 256) = (hL : Int) / 256 := by rw [IntKind.wrap_u8]; omega
  have hw2 : IntKind.u8.wrap (hL : Int) = (hL : Int) % 256 := by rw [IntKind.wrap_u8]
  have hcd2 : (convert 57 9 (.slice (some ⟨w6.heap.size, 0, none⟩) 2 2)).run Tryd.prog (w6.alloc (.cells #[.int .u8 (IntKind.u8.wrap ((hL : Int) / 256)), .int .u8 (IntKind.u8.wrap (hL : Int))] 5)).drew = .ok (.string ⟨(two hL).toArray⟩) (w6.alloc (.cells #[.int .u8 (IntKind.u8.wrap ((hL : Int) / 256)), .int .u8 (IntKind.u8.wrap (hL : Int))] 5)).drew := by rw [hw1, hw2]; exact hcd
  clear hcv hcd hw1 hw2
  have hos := fun wq => OldSum_bel (ByteArray.mk (two hL).toArray ++ xl) wq (by unfold maxLen; rw [ByteArray.size_append, two_size]; omega)
  rw [unhide HHD3, HHD2] at hos
  have hz2 : (two hL).length = 2 := rfl
  have f1 : (0 : Int) ≤ (xs.length : Int) - 1 := by omega
  have f2 : (xs.length : Int) - 1 < (xs.length : Int) := by omega
  have f3 : ((xs.length : Int) - 1).toNat = xs.length - 1 := by omega
  have f4 : (1 : Int) ≤ (xs.length : Int) := by omega
  have fW : IntKind.i64.wrap ((xs.length : Int) - 1) = (xs.length : Int) - 1 := i64w _ (by omega)
  have f6 : xs ≠ [] := fun h => by rw [h] at hxn; cases hxn
  have hkx : k < (bs xs).length := by rw [bs_length]; exact hk
  obtain ⟨xk, hxke⟩ : ∃ xk, xk = xs.getD k ByteArray.empty := ⟨_, rfl⟩
  have hbk : (bs xs).getD k [] = xk.data.toList := by
    rw [List.getD_eq_getElem?_getD, bs_getD xs k hk, ← hxke]
    rfl
  have CK := hide (show ∀ wq, Below w1.heap.size w1 wq → wq.cell? ⟨b, off + k, none⟩ = some (.string xk) from fun wq hb => by
    obtain ⟨ao', cp', hev, _, _, h3⟩ := unhide S1 wq hb
    injection hev with hev1 hev2 hev3
    rcases h3 with h3 | ⟨b', off', h3, hcc⟩
    · rw [h3] at hxn; cases hxn
    · rw [← hev1] at h3
      injection h3 with h3
      injection h3 with h4 h5
      rw [h4, h5, hxke]
      exact hcc k hk)
  have hov := fun wq hs => OldVerify_any (last 0 (bs xs)) before (xs.length : Int) (k : Int) entry (.slice aor rs.length cpr) rs wq hbf (by omega) (by omega) he hs (unhide HZ)
  have htr := fun wq hr ht => Translate_any T k entry before (.slice aor rs.length cpr) rs wq (by unfold maxLen; omega) (by omega) he hbf hr (unhide HZ) ht
  rw [unhide HTD, unhide HTR] at htr
  have hcut := last_cut (bs xs) k 0 hkx
  rw [hbk] at hcut
  have hco : ovR (last 0 (bs xs)) xs.length k entry before rs = true → entry ≠ xk → (trOf (bs xs) 0 k entry before rs).2.2.2 = 11 ∧ (trOf (bs xs) 0 k entry before rs).1 = [] ∧ (trOf (bs xs) 0 k entry before rs).2.1 ≠ (trOf (bs xs) 0 k entry before rs).2.2.1 ∧ wk (trOf (bs xs) 0 k entry before rs).2.1 = wk (trOf (bs xs) 0 k entry before rs).2.2.1 ∧ (trOf (bs xs) 0 k entry before rs).2.1.length ≤ 140737488351234 ∧ (trOf (bs xs) 0 k entry before rs).2.2.1.length ≤ 140737488351234 := by
    intro h1 h2
    obtain ⟨hrl, hla⟩ := ovR_length h1
    have hne2 : (bs xs).getD k [] ≠ entry.data.toList := by
      rw [hbk]
      intro h3
      apply h2
      rw [← mk_self entry, ← mk_self xk, h3]
    unfold trOf
    rw [if_neg (by decide), if_neg (by rw [bs_length]; omega), if_neg (by rw [bs_length, h1]; decide), Int.toNat_natCast, if_neg hne2]
    have hm := coll_meets (bs rs) ((bs xs).drop (k + 1)) (two before ++ entry.data.toList) (two (last 0 ((bs xs).take k)) ++ (bs xs).getD k []) (by rw [bs_length, List.length_drop, bs_length]; omega)
      (fun h3 => hne2 (coll_heads h3)) (by rw [hbk]; exact hla.trans hcut)
    have hsz := coll_size (bs rs) ((bs xs).drop (k + 1)) (two before ++ entry.data.toList) (two (last 0 ((bs xs).take k)) ++ (bs xs).getD k []) 140737488351234 (fun e he => by
        obtain ⟨x, hx, rfl⟩ := List.mem_map.1 he
        obtain ⟨q, hq, e⟩ := List.mem_iff_getElem.1 hx
        have := unhide HZ q hq
        rw [List.getD_eq_getElem?_getD, List.getElem?_eq_getElem hq, Option.getD_some, e] at this
        have e2 : x.data.toList.length = x.size := rfl
        omega) (fun e he => by
        have := bs_small xs (unhide HX) e (List.mem_of_mem_drop he)
        omega) (by
        have e2 : entry.data.toList.length = entry.size := rfl
        rw [List.length_append, two_length]
        omega) (by
        have := unhide HXS k hk
        rw [← hxke] at this
        have e2 : xk.data.toList.length = xk.size := rfl
        rw [hbk, List.length_append, two_length]
        omega)
    exact ⟨rfl, rfl, hm.1, hm.2.1, hsz.1, hsz.2⟩
  have hno : ovR (last 0 (bs xs)) xs.length k entry before rs = false → trOf (bs xs) 0 k entry before rs = ([], [], [], 10) := by
    intro h1
    unfold trOf
    rw [if_neg (by decide), if_neg (by rw [bs_length]; omega), if_pos (by rw [bs_length]; exact h1)]
  have hyes : ovR (last 0 (bs xs)) xs.length k entry before rs = true → entry = xk → (trOf (bs xs) 0 k entry before rs).2.2.2 = 0 := by
    intro h1 h2
    unfold trOf
    rw [if_neg (by decide), if_neg (by rw [bs_length]; omega), if_neg (by rw [bs_length, h1]; decide), Int.toNat_natCast, if_pos (by rw [hbk, h2])]
  generalize trOf (bs xs) 0 k entry before rs = tr at htr hco hno hyes
  generalize ovR (last 0 (bs xs)) xs.length k entry before rs = ob at hov hco hno hyes
  generalize last 0 (bs xs) = HD at hos hov hcut HHD
  obtain ⟨tp, t1, t2, te⟩ := tr
  simp only at htr hco hno hyes
  have HCO := hide hco
  have HNO := hide hno
  have HYES := hide hyes
  have HOV := hide hov
  have HTRA := hide htr
  clear hcut hco hno hyes hov htr hbk hxke hkx HTR HTD
  clear hxle HHD2 HHD3 HHL2 cX
  go_wp2_with fail
  go_region_with (go_at_call 13; refine (hos _).mono ?_; rintro e w7 ⟨rfl, hb7⟩)
  all_goals
    have K7 := hide ((((unhide K6).alloc (unhide K6).size _).drew).trans (hb7.mono (by have := (unhide K6).size; show w1.heap.size ≤ (w6.alloc _).heap.size; simp; omega)))
    have P7 := hide ((hb7.block _ (by have := lt_of_block (unhide P6); show _ < (w6.alloc _).heap.size; simp; omega)).trans ((heap_alloc_old _ _ (lt_of_block (unhide P6))).trans (unhide P6)))
    have KW7 := hide ((unhide HB1).trans ((unhide K7).mono (unhide HB1).size))
    clear hb7 hcx6 hcx7 hcx8 hcx9 hcd2 hos K6 P6 c60
    go_wp2_with ((with_reducible refine at_load ?_); refine wpList_load_row rfl 51 _ rfl GP (by rfl) 51 #[.int .u16 (before : Int), .slice aor rs.length cpr] (0, 0) _ (unhide P7) Tryd.underlying51 rfl info_opf ?_)
    refine (unhide HOV _ (unhide HR _ (unhide KW7))).mono ?_
    rintro e w8 ⟨rfl, hb8⟩
    have K8 := hide ((unhide K7).trans (hb8.mono (unhide K7).size))
    have P8 := hide ((hb8.block _ (lt_of_block (unhide P7))).trans (unhide P7))
    have KW8 := hide ((unhide HB1).trans ((unhide K8).mono (unhide HB1).size))
    clear hb8 K7 P7 KW7
    go_wp2_with ((with_reducible refine at_load ?_); refine wpList_load_row rfl 51 _ rfl GP (by rfl) 51 #[.int .u16 (before : Int), .slice aor rs.length cpr] (0, 0) _ (unhide P8) Tryd.underlying51 rfl info_opf ?_)
    refine (unhide HTRA _ (unhide HR _ (unhide KW8)) (unhide HT _ (unhide KW8))).mono ?_
    rintro e w9 ⟨v9, rfl, hown9, hb9⟩
    obtain ⟨ao9, cp9, rfl⟩ := own_shape hown9
    obtain ⟨l1, hl1⟩ : ∃ l1, l1 = mk t1 := ⟨_, rfl⟩
    obtain ⟨l2, hl2⟩ : ∃ l2, l2 = mk t2 := ⟨_, rfl⟩
    rw [← hl1, ← hl2]
    have HL1 := hide hl1
    have HL2 := hide hl2
    clear hl1 hl2
    have K9 := hide ((unhide K8).trans (hb9.mono (unhide K8).size))
    have W10 := opf_new w9 #[.slice none 0 0, .string ⟨#[]⟩, .string ⟨#[]⟩] #[.slice ao9 tp.length cp9, .string l1, .string l2] 60
    clear hown9 hb9 K8 P8 KW8
    go_upto_region 16 with ((with_reducible refine at_store ?_); go_must (refine wpList_store_row rfl 60 _ _ rfl w9.heap.size #[.slice ao9 tp.length cp9, .string l1, .string l2] rfl rfl 60 _ (heap_alloc_new w9 _) info_car rfl (car_one _ _ _ _ _) ?_))
    generalize (w9.alloc (.cells #[.slice none 0 0, .string ⟨#[]⟩, .string ⟨#[]⟩] 60)).setRow w9.heap.size #[.slice ao9 tp.length cp9, .string l1, .string l2] = w10 at W10 ⊢
    obtain ⟨hb10, hp10, hz10⟩ := W10
    have K10 := hide ((unhide K9).trans (hb10.mono (unhide K9).size))
    have KW10 := hide ((unhide HB1).trans ((unhide K10).mono (unhide HB1).size))
    obtain ⟨d0, d1, d2⟩ := cell_of_car hp10
    have ck := unhide CK w10 (unhide K10)
    generalize w9.heap.size = GC at d0 d1 d2 ⊢
    clear hb10 hp10 hz10 K9 K10
    cases ob
    · have hno := unhide HNO rfl
      injection hno with hno1 hno
      injection hno with hno2 hno
      injection hno with hno3 hno4
      subst hno1 hno2 hno3 hno4
      have hl1 := unhide HL1
      have hl2 := unhide HL2
      subst hl1 hl2
      have hn1 : (mk []).toList.isEmpty = true := by rw [ByteArray.toList_eq]; rfl
      go_wp2
      go_ret
      exact ⟨rfl, unhide KW10⟩
    · by_cases hen : entry = xk
      · have hte := unhide HYES rfl hen
        subst hte hen
        have hee : (entry.toList == entry.toList) = true := by simp
        go_wp2
        go_ret
        exact ⟨rfl, unhide KW10⟩
      · obtain ⟨hte, htp, hne1, hwk, hz1, hz2⟩ := unhide HCO rfl hen
        subst hte htp
        have hl1 := unhide HL1
        have hl2 := unhide HL2
        have hee : (entry.toList == xk.toList) = false := by
          rw [beq_eq_false_iff_ne, ByteArray.toList_eq, ByteArray.toList_eq]
          intro h
          apply hen
          rw [← mk_self entry, ← mk_self xk, h]
        have hl12 : (l1.toList == l2.toList) = false := by
          rw [beq_eq_false_iff_ne, hl1, hl2, ByteArray.toList_eq, ByteArray.toList_eq, mk_data, mk_data]
          exact hne1
        have ho1 := fun wq => OldSum_bel l1 wq (by rw [hl1, mk_size]; unfold maxLen; omega)
        have ho2 := fun wq => OldSum_bel l2 wq (by rw [hl2, mk_size]; unfold maxLen; omega)
        have hwe : wk l1.data.toList = wk l2.data.toList := by rw [hl1, hl2, mk_data, mk_data]; exact hwk
        rw [hwe] at ho1
        generalize wk l2.data.toList = q at ho1 ho2
        have hqq : ((q : Int) == (q : Int)) = true := by simp
        have hlc : GC < w10.heap.size := cell_lt d0
        clear hl1 hl2 hne1 hwk hz1 hz2 hwe hen
        go_wp2_with fail
        refine (ho1 _).mono ?_
        rintro e w11 ⟨rfl, hb11⟩
        have d2' : w11.cell? ⟨GC, 2, none⟩ = some (.string l2) := by rw [hb11.cell (p := ⟨GC, 2, none⟩) hlc]; exact d2
        have K11 := hide ((unhide KW10).trans (hb11.mono (unhide KW10).size))
        have C11 := hide (fun j (x : Value) (hx : w10.cell? ⟨GC, j, none⟩ = some x) => (show w11.cell? ⟨GC, j, none⟩ = some x by rw [hb11.cell (p := ⟨GC, j, none⟩) hlc]; exact hx))
        have e0 := unhide C11 0 _ d0
        have e1 := unhide C11 1 _ d1
        have hs11 := hb11.size
        clear hb11 ck C11
        go_wp2_with fail
        refine (ho2 _).mono ?_
        rintro e w12 ⟨rfl, hb12⟩
        have C12 := hide (fun j (x : Value) (hx : w11.cell? ⟨GC, j, none⟩ = some x) => (show w12.cell? ⟨GC, j, none⟩ = some x by rw [hb12.cell (p := ⟨GC, j, none⟩) (show GC < w11.heap.size by omega)]; exact hx))
        have g0 := unhide C12 0 _ e0
        have g1 := unhide C12 1 _ e1
        have g2 := unhide C12 2 _ d2'
        have K12 := hide ((unhide K11).trans (hb12.mono (unhide K11).size))
        clear hb12 C12 e0 e1 d0 d1 d2 d2' K11
        go_wp2
        go_ret
        exact ⟨rfl, unhide K12⟩

theorem collided_any (v : Value) (ss : List ByteArray) (c1 : Int) (entry : ByteArray) (before : Nat) (vr : Value) (rs : List ByteArray) (w : World) (hS : Strs w v ss) (hsz : ∀ i, i < ss.length → (ss.getD i ByteArray.empty).size ≤ maxLen) (h1 : -9223372036854775808 ≤ c1 ∧ c1 ≤ 9223372036854775807) (he : entry.size ≤ 140737488351232) (hbf : before < 65536) (hr : Strs w vr rs) (hz : ∀ i, i < rs.length → (rs.getD i ByteArray.empty).size ≤ 140737488351232) (hT : Tabs w) :
    Calls Tryd.prog 5 #[v, .int .i64 c1, .string entry, .int .u16 before, vr] w fun e w' => e = .returned (.bool true) ∧ Below w.heap.size w w' := by
  by_cases h : ss = []
  · subst h
    exact collided_none v c1 entry before vr rs w hS he hbf hr hz hT
  · exact collided_some v ss c1 entry before vr rs w hS hsz h1 he hbf hr hz hT h
end Go.Proofs.YtanfolfopalbeabDoor
