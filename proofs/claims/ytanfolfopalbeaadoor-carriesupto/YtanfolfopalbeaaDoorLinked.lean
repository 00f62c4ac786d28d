import Derived.Test.YtanfolfopalbeaaDoorKnown
import Derived.Deep.RegionWith
import Derived.Deep.CutRange
namespace Go.Proofs.YtanfolfopalbeaaDoor
open Go.RowKit

theorem ents_small (ss : List ByteArray) (m : Nat) : ∀ s ∈ ents ss m, s.size ≤ 20 := by
  intro s hs
  simp only [ents, List.mem_map] at hs
  obtain ⟨x, _, rfl⟩ := hs
  exact cut20_size x
theorem chk_of (xs : List ByteArray) (h : xs.length ≤ 100) (hz : ∀ s ∈ xs, s.size ≤ 20) : chk xs = 0 := by
  unfold chk
  rw [if_neg (by omega), if_neg]
  rw [List.any_eq_true]
  rintro ⟨s, hs, hl⟩
  have := hz s hs
  simp at hl
  omega
theorem bs_small (xs : List ByteArray) (hz : ∀ s ∈ xs, s.size ≤ 20) : ∀ e ∈ bs xs, e.length ≤ 20 := by
  intro e he
  simp only [bs, List.mem_map] at he
  obtain ⟨s, hs, rfl⟩ := he
  exact hz s hs
theorem bs_take (xs : List ByteArray) (k : Nat) : (bs xs).take k = bs (xs.take k) := by simp [bs]
/-- The front of a slice of strings. -/
theorem Strs.front {w : World} {b off cap n : Nat} {ss : List ByteArray} (h : Strs w (.slice (some ⟨b, off, none⟩) n cap) ss) (k : Nat) (hk : k ≤ n) : Strs w (.slice (some ⟨b, off, none⟩) k cap) (ss.take k) := by
  obtain ⟨ao, cap', he, h1, h2, h3⟩ := h
  simp only [Value.slice.injEq] at he
  obtain ⟨rfl, rfl, rfl⟩ := he
  have hl : (ss.take k).length = k := by rw [List.length_take]; omega
  refine ⟨some ⟨b, off, none⟩, cap, by rw [hl], by omega, h2, ?_⟩
  rcases h3 with rfl | ⟨b', off', he, hc⟩
  · simp
  · simp only [Option.some.injEq, Addr.mk.injEq, and_true] at he
    obtain ⟨rfl, rfl⟩ := he
    refine .inr ⟨b, off, rfl, fun i hi => ?_⟩
    rw [hc i (by omega)]
    simp only [List.getD]
    rw [List.getElem?_take_of_lt (by omega)]
theorem strs_shape {w : World} {v : Value} {ss : List ByteArray} (h : Strs w v ss) (hne : ss ≠ []) : ∃ b off cap, v = .slice (some ⟨b, off, none⟩) ss.length cap ∧ ss.length ≤ cap := by
  obtain ⟨ao, cap, rfl, h1, h2, h3⟩ := h
  rcases h3 with h3 | ⟨b, off, rfl, _⟩
  · exact absurd h3 hne
  · exact ⟨b, off, cap, rfl, h1⟩

theorem getElem_mid (T : ByteArray) (F R : List UInt8) (l0 : UInt8) (h : T.data.toList = F ++ [l0] ++ R) (i : Nat) (hi : i = F.length) (hb : i < T.size) : T[i] = l0 := by
  subst hi
  have h1 : T.data.toList[F.length]? = some T[F.length] := by
    rw [List.getElem?_eq_getElem (by exact hb)]
    rfl
  have h2 : (F ++ [l0] ++ R)[F.length]? = some l0 := by
    rw [List.append_assoc, List.getElem?_append_right (Nat.le_refl _), Nat.sub_self]
    rfl
  rw [h, h2] at h1
  exact (Option.some.inj h1).symm
theorem xor_byte (l0 : UInt8) (t : Nat) (ht : t < 255) : UInt8.ofNat (bits BinOp.xor IntKind.u8 (l0.toNat : Int) (1 + (t : Int))).toNat ≠ l0 := by
  have hl : l0.toNat < 256 := l0.toNat_lt
  rw [show (1 + (t : Int)) = ((1 + t : Nat) : Int) by omega, u8_xor_nat _ _ hl (by omega), Int.toNat_natCast]
  intro h
  have h1 := congrArg UInt8.toNat h
  have hx : l0.toNat ^^^ (1 + t) < 256 := by
    have := Nat.xor_lt_two_pow (n := 8) (x := l0.toNat) (y := 1 + t) (by omega) (by omega)
    omega
  rw [UInt8.toNat_ofNat', Nat.mod_eq_of_lt (by omega)] at h1
  have h2 : l0.toNat ^^^ (l0.toNat ^^^ (1 + t)) = l0.toNat ^^^ l0.toNat := by rw [h1]
  rw [← Nat.xor_assoc, Nat.xor_self, Nat.zero_xor] at h2
  omega
theorem bad_data (T : ByteArray) (F R : List UInt8) (l0 : UInt8) (a : Nat) (y : Int) (h : T.data.toList = F ++ [l0] ++ R) (ha : F.length + 1 = a) :
    (T.extract 0 (a - 1) ++ strOfNums [y] ++ T.extract a T.size).data.toList = F ++ [UInt8.ofNat y.toNat] ++ R := by
  have e1 : (T.extract 0 (a - 1)).data.toList = F := by
    rw [extract_data, h, List.drop_zero, List.append_assoc]
    exact List.take_left' (by omega)
  have e2 : (T.extract a T.size).data.toList = R := by
    rw [extract_mk_drop, h]
    exact List.drop_left' (by simp; omega)
  simp only [ByteArray.data_append, Array.toList_append, e1, e2]
  rfl
theorem cut_data (T : ByteArray) (F R : List UInt8) (l0 : UInt8) (a : Nat) (h : T.data.toList = F ++ [l0] ++ R) (ha : F.length + 1 = a) : (T.extract 0 (a - 1)).data.toList = F := by
  rw [extract_data, h, List.drop_zero, List.append_assoc]
  exact List.take_left' (by omega)

set_option maxRecDepth 100000 in
set_option maxHeartbeats 1600000 in
theorem linked_some (v : Value) (ss : List ByteArray) (c1 c2 : Int) (w : World) (hS : Strs w v ss) (hsz : ∀ i, i < ss.length → (ss.getD i ByteArray.empty).size ≤ maxLen)
    (h1 : -9223372036854775808 ≤ c1 ∧ c1 ≤ 9223372036854775807) (h2 : -9223372036854775808 ≤ c2 ∧ c2 ≤ 9223372036854775807) (hT : Tabs w) (hne : ss ≠ []) :
    Calls Tryd.prog 4 #[v, .int .i64 c1, .int .i64 c2] w fun e w' => e = .returned (.bool true) ∧ Below w.heap.size w w' := by
  have HS := hide hS
  have HZ := hide hsz
  have HT := hide hT
  have HNE := hide hne
  clear hS hsz hT hne
  go_enter Tryd.func4, Tryd.ntmps4
  go_wp2_with fail
  refine (entries_any v ss _ (unhide HS) (unhide HZ)).mono ?_
  rintro e w1 ⟨v1, rfl, hown1, hb1⟩
  have hxl : (ents ss (min 100 ss.length)).length ≤ 100 := by rw [ents_length]; omega
  have hxz := ents_small ss (min 100 ss.length)
  have hxn : 0 < (ents ss (min 100 ss.length)).length := by
    rw [ents_length]
    have : 0 < ss.length := List.length_pos_iff.2 (unhide HNE)
    omega
  generalize ents ss (min 100 ss.length) = xs at hown1 hxl hxz hxn
  have hS1 := strs_of_own hown1
  obtain ⟨b, off, cap, hv1, hcap⟩ := strs_shape hS1 (by intro h; rw [h] at hxn; simp at hxn)
  subst hv1
  have hbel1 := hb1
  have hck := chk_of xs hxl hxz
  have hwt : wrText xs = mk (olog 0 (bs xs)) := by unfold wrText; rw [if_pos hck]; rfl
  have hlen := olog_szs xs 0
  have hsl := szs_le xs hxz
  have HX := hide hxz
  have HCK := hide hck
  have HWT := hide hwt
  have HLEN := hide hlen
  have S1 := hide hS1
  clear hown1 hxz hck hwt hlen hS1 hb1
  go_wp2_with fail
  refine (WriteOld_any _ xs _ (unhide S1)).mono ?_
  rw [unhide HCK, unhide HWT]
  rintro e w2 ⟨rfl, hb2⟩
  have hbel2 := hbel1.trans (hb2.mono hbel1.size)
  have S2 := hide ((unhide S1).below hb2 (Nat.le_refl _))
  have hTz : (mk (olog 0 (bs xs))).size = szs xs := by rw [mk_size, unhide HLEN]
  have HRB := hide (read_back (bs xs) (bs_small xs (unhide HX)) (by rw [bs_length]; exact hxl))
  have HTD := hide (show (mk (olog 0 (bs xs))).data.toList = olog 0 (bs xs) from mk_data _)
  generalize mk (olog 0 (bs xs)) = T at hTz HTD ⊢
  have hTm : T.size ≤ 2300 := by omega
  have HTZ := hide hTz
  clear S1 hb2 hbel1 hTz
  go_wp2_with fail
  refine (ReadOld_any T _ (by unfold maxLen; omega)).mono ?_
  rw [unhide HTD, unhide HRB]
  rintro e w3 ⟨v3, rfl, hown3, hb3⟩
  have hbel3 := hbel2.trans (hb3.mono hbel2.size)
  have S3 := hide ((unhide S2).below hb3 (Nat.le_refl _))
  have hR3 := strs_of_own hown3
  rw [mk_bs] at hR3
  have R3 := hide hR3
  clear S2 hb3 hbel2 hown3 hR3
  go_wp2_with fail
  refine (same_any _ _ xs _ (unhide S3) (unhide R3)).mono ?_
  rintro e w4 ⟨rfl, hb4⟩
  have hbel4 := hbel3.trans (hb4.mono hbel3.size)
  have S4 := hide ((unhide S3).below hb4 (Nat.le_refl _))
  have T4 := hide ((unhide HT).below hbel4 (Nat.le_refl _))
  clear S3 R3 hb4 hbel3
  go_wp2_with fail
  refine (known_any _ (unhide T4)).mono ?_
  rintro e w5 ⟨rfl, hb5⟩
  have hbel5 := hbel4.trans (hb5.mono hbel4.size)
  have S5 := hide ((unhide S4).below hb5 (Nat.le_refl _))
  clear S4 T4 hb5 hbel4
  go_wp2_with fail
  refine (size_any _ xs _ (unhide S5) hxl (unhide HX)).mono ?_
  rintro e w6 ⟨rfl, rfl⟩
  have hx0 : ((xs.length : Int) == 0) = false := by rw [beq_eq_false_iff_ne]; omega
  have hcmp : ((T.size : Int) != (szs xs : Int)) = false := by rw [bne_eq_false_iff_eq, unhide HTZ]
  go_wp2_with fail
  refine (pick_any c1 xs.length _ h1 hxn (by omega)).mono ?_
  rintro e w7 ⟨k, hk, rfl, rfl⟩
  go_wp2_with fail
  refine (size_any _ (xs.take (k + 1)) _ ((unhide S5).front (k + 1) hk) (by rw [List.length_take]; omega) (fun s hs => unhide HX s (List.mem_of_mem_take hs))).mono ?_
  rintro e w8 ⟨rfl, rfl⟩
  have hkb : k < (bs xs).length := by rw [bs_length]; exact hk
  obtain ⟨R, hR⟩ := olog_at (bs xs) k 0 hkb
  rw [frm_split, ← List.append_assoc] at hR
  have hat : (olog 0 ((bs xs).take k) ++ fb (last 0 ((bs xs).take k)) (bs xs)[k]).length + 1 = szs (xs.take (k + 1)) := by
    rw [← olog_szs (xs.take (k + 1)) 0, ← bs_take, List.take_succ_eq_append_getElem hkb, olog_snoc, frm_split]
    simp
    omega
  have hTd : T.data.toList = olog 0 ((bs xs).take k) ++ fb (last 0 ((bs xs).take k)) (bs xs)[k] ++ [lo (last 0 ((bs xs).take k)) (bs xs)[k]] ++ R := by rw [unhide HTD, hR]
  have HLK := hide (fun b' h hb => read_link (bs xs) (bs_small xs (unhide HX)) (by rw [bs_length]; exact hxl) k hkb R b' h hb)
  have HCT := hide (fun h => read_cut (bs xs) (bs_small xs (unhide HX)) (by rw [bs_length]; exact hxl) k hkb h)
  generalize lo (last 0 ((bs xs).take k)) (bs xs)[k] = l0 at hTd HLK
  generalize olog 0 ((bs xs).take k) ++ fb (last 0 ((bs xs).take k)) (bs xs)[k] = F at hTd HLK HCT hat
  generalize szs (xs.take (k + 1)) = a at hat ⊢
  have hTl : F.length + 1 + R.length = T.size := by
    have : T.data.toList.length = T.size := rfl
    rw [hTd] at this
    simp at this
    omega
  have HTD2 := hide hTd
  clear hR hTd HTD HRB
  go_wp2_with fail
  refine (pick_any c2 255 _ h2 (by omega) (by omega)).mono ?_
  rintro e w9 ⟨t, ht, rfl, rfl⟩
  have fW : IntKind.i64.wrap ((a : Int) - 1) = (a : Int) - 1 := i64w _ (by omega)
  have f0 : (0 : Int) ≤ (a : Int) - 1 := by omega
  have f1 : (a : Int) - 1 ≤ (T.size : Int) := by omega
  have f2 : (a : Int) - 1 < (T.size : Int) := by omega
  have f3 : ((a : Int) - 1).toNat = a - 1 := by omega
  have f4 : (a : Int) ≤ (T.size : Int) := by omega
  have f5 : a - 1 < T.size := by omega
  have f6 : (1 : Int) ≤ (a : Int) := by omega
  have hcv : ∀ y : Int, (convert 45 9 (.slice (some ⟨w9.heap.size, 0, none⟩) 1 1)).run Tryd.prog (w9.alloc (.cells #[.int .u8 y] 5)).drew = .ok (.string (strOfNums [y])) (w9.alloc (.cells #[.int .u8 y] 5)).drew := fun y =>
    run_convert_bytes_arg (P := Tryd.prog) _ 45 5 Tryd.underlying45 Tryd.underlying5 w9.heap.size 0 1 1 [y] rfl (fun i hi => by
      have hi0 : i = 0 := by omega
      subst hi0
      exact World.cell?_alloc_mark w9 _ _ _ _) 9 Tryd.underlying9
  have hsn : ∀ y : Int, (strOfNums [y]).size = 1 := fun y => rfl
  go_wp2
  go_region
  have hbd0 := bad_data T F R l0 a (bits BinOp.xor IntKind.u8 ((T[a - 1].toNat : Nat) : Int) (1 + (t : Int))) (unhide HTD2) hat
  have hxb : UInt8.ofNat (bits BinOp.xor IntKind.u8 ((T[a - 1].toNat : Nat) : Int) (1 + (t : Int))).toNat ≠ l0 := by
    rw [getElem_mid T F R l0 (unhide HTD2) (a - 1) (by omega) f5]
    exact xor_byte l0 t ht
  generalize bits BinOp.xor IntKind.u8 ((T[a - 1].toNat : Nat) : Int) (1 + (t : Int)) = y at hbd0 hxb ⊢
  have hBs : (T.extract 0 (a - 1) ++ strOfNums [y] ++ T.extract a T.size).size ≤ maxLen := by
    have : (T.extract 0 (a - 1) ++ strOfNums [y] ++ T.extract a T.size).data.toList.length = (T.extract 0 (a - 1) ++ strOfNums [y] ++ T.extract a T.size).size := rfl
    rw [hbd0, List.length_append, List.length_append, List.length_singleton] at this
    unfold maxLen
    omega
  have hrd := unhide HLK (UInt8.ofNat y.toNat) (by simp; omega) hxb
  rw [← hbd0] at hrd
  generalize T.extract 0 (a - 1) ++ strOfNums [y] ++ T.extract a T.size = Bd at hBs hrd ⊢
  have HRD := hide hrd
  have hb9 : Below w9.heap.size w9 (w9.alloc (.cells #[.int .u8 y] 5)).drew := ((Below.refl _ _).alloc (Nat.le_refl _) _).drew
  have S9 := hide ((unhide S5).below hb9 (Nat.le_refl _))
  have hbel9 := hbel5.trans (hb9.mono hbel5.size)
  generalize (w9.alloc (.cells #[.int .u8 y] 5)).drew = wA at hb9 S9 hbel9 ⊢
  clear hrd hbd0 hxb hcv hsn S5 hbel5 hb9 HLK
  go_wp2_with fail
  refine (ReadOld_any Bd _ hBs).mono ?_
  rw [unhide HRD]
  rintro e wB ⟨vB, rfl, hownB, hbB⟩
  have hbelB := hbel9.trans (hbB.mono hbel9.size)
  have SB := hide ((unhide S9).below hbB (Nat.le_refl _))
  have hRB := strs_of_own hownB
  rw [bs_take, mk_bs] at hRB
  have RB := hide hRB
  clear S9 hbB hbel9 hownB hRB HRD
  go_wp2_with fail
  refine (same_any _ _ (xs.take k) _ (unhide RB) ((unhide SB).front k (by omega))).mono ?_
  rintro e wC ⟨rfl, hbC⟩
  have hbelC := hbelB.trans (hbC.mono hbelB.size)
  have SC := hide ((unhide SB).below hbC (Nat.le_refl _))
  have hkk : ((k : Int) != (k : Int)) = false := by simp
  have hkk2 : ((k : Int) == (k : Int)) = true := by simp
  have hcd := cut_data T F R l0 a (unhide HTD2) hat
  have hrd := unhide HCT (by omega)
  rw [← hcd] at hrd
  have HRD := hide hrd
  have hCs : (T.extract 0 (a - 1)).size ≤ maxLen := by
    have : (T.extract 0 (a - 1)).data.toList.length = (T.extract 0 (a - 1)).size := rfl
    rw [hcd] at this
    unfold maxLen
    omega
  have HCS := hide hCs
  clear SB RB hbC hbelB hcd hrd hCs HCT
  go_wp2_with fail
  refine (ReadOld_any (T.extract 0 (a - 1)) _ (unhide HCS)).mono ?_
  rw [unhide HRD]
  rintro e wD ⟨vD, rfl, hownD, hbD⟩
  have hbelD := hbelC.trans (hbD.mono hbelC.size)
  have SD := hide ((unhide SC).below hbD (Nat.le_refl _))
  have hRD := strs_of_own hownD
  rw [bs_take, mk_bs] at hRD
  have RD := hide hRD
  clear SC hbD hbelC hownD hRD HRD
  go_wp2_with fail
  refine (same_any _ _ (xs.take k) _ (unhide RD) ((unhide SD).front k (by omega))).mono ?_
  rintro e wE ⟨rfl, hbE⟩
  have hbelE := hbelD.trans (hbE.mono hbelD.size)
  go_wp2
  go_ret
  exact ⟨rfl, hbelE⟩

set_option maxRecDepth 100000 in
set_option maxHeartbeats 800000 in
theorem linked_none (v : Value) (c1 c2 : Int) (w : World) (hS : Strs w v []) (hT : Tabs w) :
    Calls Tryd.prog 4 #[v, .int .i64 c1, .int .i64 c2] w fun e w' => e = .returned (.bool true) ∧ Below w.heap.size w w' := by
  have HS := hide hS
  have HT := hide hT
  clear hS hT
  go_enter Tryd.func4, Tryd.ntmps4
  go_wp2_with fail
  refine (entries_any v [] _ (unhide HS) (fun i h => absurd h (Nat.not_lt_zero i))).mono ?_
  rw [show ents [] (min 100 [].length) = [] from rfl]
  rintro e w1 ⟨v1, rfl, hown1, hb1⟩
  have S1 := hide (strs_of_own (ss := []) hown1)
  obtain ⟨ao, cap, hv1⟩ := own_shape hown1
  subst hv1
  clear hown1
  go_wp2_with fail
  refine (WriteOld_any _ [] _ (unhide S1)).mono ?_
  rw [show chk [] = 0 from rfl, show wrText [] = ⟨#[]⟩ from rfl]
  rintro e w2 ⟨rfl, hb2⟩
  have hbel2 := hb1.trans (hb2.mono hb1.size)
  have S2 := hide ((unhide S1).below hb2 (Nat.le_refl _))
  clear S1 hb2 hb1
  go_wp2_with fail
  refine (ReadOld_any ⟨#[]⟩ _ (by decide)).mono ?_
  rw [show rdOld (ByteArray.mk #[]).data.toList = ([], 0, 0) from rfl]
  rintro e w3 ⟨v3, rfl, hown3, hb3⟩
  have hbel3 := hbel2.trans (hb3.mono hbel2.size)
  have S3 := hide ((unhide S2).below hb3 (Nat.le_refl _))
  have R3 := hide (strs_of_own (ss := []) hown3)
  clear S2 hb3 hbel2 hown3
  go_wp2_with fail
  refine (same_any _ _ [] _ (unhide S3) (unhide R3)).mono ?_
  rintro e w4 ⟨rfl, hb4⟩
  have hbel4 := hbel3.trans (hb4.mono hbel3.size)
  have S4 := hide ((unhide S3).below hb4 (Nat.le_refl _))
  have T4 := hide ((unhide HT).below hbel4 (Nat.le_refl _))
  clear S3 R3 hb4 hbel3
  go_wp2_with fail
  refine (known_any _ (unhide T4)).mono ?_
  rintro e w5 ⟨rfl, hb5⟩
  have hbel5 := hbel4.trans (hb5.mono hbel4.size)
  have S5 := hide ((unhide S4).below hb5 (Nat.le_refl _))
  clear S4 T4 hb5 hbel4
  go_wp2_with fail
  refine (size_any _ [] _ (unhide S5) (by decide) (fun s h => by cases h)).mono ?_
  rw [show szs [] = 0 from rfl]
  rintro e w6 ⟨rfl, rfl⟩
  go_wp2
  go_ret
  exact ⟨rfl, hbel5⟩

theorem linkedLaw_any (v : Value) (ss : List ByteArray) (c1 c2 : Int) (w : World) (hS : Strs w v ss) (hsz : ∀ i, i < ss.length → (ss.getD i ByteArray.empty).size ≤ maxLen)
    (h1 : -9223372036854775808 ≤ c1 ∧ c1 ≤ 9223372036854775807) (h2 : -9223372036854775808 ≤ c2 ∧ c2 ≤ 9223372036854775807) (hT : Tabs w) :
    Calls Tryd.prog 4 #[v, .int .i64 c1, .int .i64 c2] w fun e w' => e = .returned (.bool true) ∧ Below w.heap.size w w' := by
  by_cases hne : ss = []
  · subst hne
    exact linked_none v c1 c2 w hS hT
  · exact linked_some v ss c1 c2 w hS hsz h1 h2 hT hne
end Go.Proofs.YtanfolfopalbeaaDoor
