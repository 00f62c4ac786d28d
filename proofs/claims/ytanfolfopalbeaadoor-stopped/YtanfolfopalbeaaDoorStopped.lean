/- ferrykeep.Stopped. -/
import Derived.Test.YtanfolfopalbeaaDoorDk4
namespace Go.Proofs.YtanfolfopalbeaaDoor
open Go.RowKit

theorem xor_one (l0 : UInt8) : UInt8.ofNat (bits BinOp.xor IntKind.u8 (l0.toNat : Int) 1).toNat ≠ l0 := xor_byte l0 0 (by omega)

set_option maxRecDepth 100000 in
set_option maxHeartbeats 3200000 in
theorem stopped_some (v : Value) (ss xs : List ByteArray) (hxs : ents ss (min 100 ss.length) = xs) (hxn : 0 < xs.length) (c1 c2 : Int) (w : World) (hS : Strs w v ss) (hsz : ∀ i, i < ss.length → (ss.getD i ByteArray.empty).size ≤ maxLen)
    (h1 : -9223372036854775808 ≤ c1 ∧ c1 ≤ 9223372036854775807) (h2 : -9223372036854775808 ≤ c2 ∧ c2 ≤ 9223372036854775807) (hT : Tabs w) :
    Calls Tryd.prog 12 #[v, .int .i64 c1, .int .i64 c2] w fun e w' => e = .returned (.bool true) ∧ Below w.heap.size w w' := by
  have HB := hide (begin_any v ss xs hxs w hS hsz hT)
  have HT := hide hT
  have hxl : xs.length ≤ 100 := by rw [← hxs, ents_length]; omega
  have hxz : ∀ s ∈ xs, s.size ≤ 20 := by rw [← hxs]; exact ents_small ss _
  have HX := hide hxz
  clear hS hsz hT hxs hxz
  go_enter Tryd.func12, Tryd.ntmps12
  go_wp2_with fail
  refine (unhide HB).mono ?_
  rintro e w1 ⟨G, vl, vd, rfl, hK1⟩
  have hlen := olog_szs xs 0
  have hsl := szs_le xs (unhide HX)
  have hTz : (mk (olog 0 (bs xs))).size = szs xs := by rw [mk_size, hlen]
  have HTD := hide (show (mk (olog 0 (bs xs))).data.toList = olog 0 (bs xs) from mk_data _)
  generalize mk (olog 0 (bs xs)) = T at hTz HTD hK1
  have hTm : T.size ≤ 2300 := by omega
  obtain ⟨ao, cap, hvl⟩ := own_shape hK1.ownl
  subst hvl
  have hcp : xs.length ≤ cap := by
    obtain ⟨ao', cap', he, h1, _⟩ := hK1.strs
    simp only [Value.slice.injEq] at he
    omega
  have K1 := hide hK1
  have hc0 := hK1.cells.c0
  have hc1 := hK1.cells.c1
  have hx0 : ((xs.length : Int) == 0) = false := by rw [beq_eq_false_iff_ne]; omega
  have HTZ := hide hTz
  clear HB hK1 hlen hsl hTz
  go_wp2_with fail
  refine (pick_any c1 xs.length _ h1 hxn (by omega)).mono ?_
  rintro e w2 ⟨k, hk, rfl, rfl⟩
  have s1 : (k : Int) + 1 ≤ (cap : Int) := by omega
  have s2 : (0 : Int) ≤ (k : Int) + 1 := by omega
  have s3 : ((k : Int) + 1).toNat = k + 1 := by omega
  go_wp2_with fail
  refine (size_any _ (xs.take (k + 1)) _ ((unhide K1).strs.cut (k + 1) hk) (by rw [List.length_take]; omega) (fun s hs => unhide HX s (List.mem_of_mem_take hs))).mono ?_
  rintro e w3 ⟨rfl, rfl⟩
  have hkb : k < (bs xs).length := by rw [bs_length]; exact hk
  obtain ⟨R, hR⟩ := olog_at (bs xs) k 0 hkb
  rw [frm_split, ← List.append_assoc] at hR
  have hat : (olog 0 ((bs xs).take k) ++ fb (last 0 ((bs xs).take k)) (bs xs)[k]).length + 1 = szs (xs.take (k + 1)) := by
    rw [← olog_szs (xs.take (k + 1)) 0, ← bs_take, List.take_succ_eq_append_getElem hkb, olog_snoc, frm_split]
    simp
    omega
  have hTd : T.data.toList = olog 0 ((bs xs).take k) ++ fb (last 0 ((bs xs).take k)) (bs xs)[k] ++ [lo (last 0 ((bs xs).take k)) (bs xs)[k]] ++ R := by rw [unhide HTD, hR]
  have HLK := hide (fun b' h hb => read_link (bs xs) (bs_small xs (unhide HX)) (by rw [bs_length]; exact hxl) k hkb R b' h hb)
  generalize lo (last 0 ((bs xs).take k)) (bs xs)[k] = l0 at hTd HLK
  generalize olog 0 ((bs xs).take k) ++ fb (last 0 ((bs xs).take k)) (bs xs)[k] = F at hTd HLK hat
  generalize szs (xs.take (k + 1)) = a at hat ⊢
  have hTl : F.length + 1 + R.length = T.size := by
    have : T.data.toList.length = T.size := rfl
    rw [hTd] at this
    simp at this
    omega
  have HTD2 := hide hTd
  clear hR hTd HTD HTZ
  have fW : IntKind.i64.wrap ((a : Int) - 1) = (a : Int) - 1 := i64w _ (by omega)
  have f0 : (0 : Int) ≤ (a : Int) - 1 := by omega
  have f1 : (a : Int) - 1 ≤ (T.size : Int) := by omega
  have f2 : (a : Int) - 1 < (T.size : Int) := by omega
  have f3 : ((a : Int) - 1).toNat = a - 1 := by omega
  have f4 : (a : Int) ≤ (T.size : Int) := by omega
  have f5 : a - 1 < T.size := by omega
  have f6 : (1 : Int) ≤ (a : Int) := by omega
  have f7 : decide ((T.size : Int) < (a : Int)) = false := by simp; omega
  go_upto_region 10 with fail
  have hcv : ∀ y : Int, (convert 45 9 (.slice (some ⟨w3.heap.size, 0, none⟩) 1 1)).run Tryd.prog (w3.alloc (.cells #[.int .u8 y] 5)).drew = .ok (.string (strOfNums [y])) (w3.alloc (.cells #[.int .u8 y] 5)).drew := fun y =>
    run_convert_bytes_arg (P := Tryd.prog) _ 45 5 Tryd.underlying45 Tryd.underlying5 w3.heap.size 0 1 1 [y] rfl (fun i hi => by
      have hi0 : i = 0 := by omega
      subst hi0
      exact World.cell?_alloc_mark w3 _ _ _ _) 9 Tryd.underlying9
  have hsn : ∀ y : Int, (strOfNums [y]).size = 1 := fun y => rfl
  have hGl := lt_of_block (unhide K1).cells
  have hc0' : w3.drew.cell? ⟨G, 0, none⟩ = some (.string T) := hc0
  have hfr : w3.drew.frozen? ⟨G, 0, none⟩ = false := (unhide K1).cells.free 0
  have hcA : ∀ o, (w3.alloc o).drew.cell? ⟨G, 0, none⟩ = some (.string T) := fun o => (((unhide K1).below ((Below.refl _ _).alloc (Nat.le_refl _) o)).cells).c0
  have hfA : ∀ o, (w3.alloc o).drew.frozen? ⟨G, 0, none⟩ = false := fun o => (((unhide K1).below ((Below.refl _ _).alloc (Nat.le_refl _) o)).cells).free 0
  go_region
  have hbd0 := bad_data T F R l0 a (bits BinOp.xor IntKind.u8 ((T[a - 1].toNat : Nat) : Int) 1) (unhide HTD2) hat
  have hxb : UInt8.ofNat (bits BinOp.xor IntKind.u8 ((T[a - 1].toNat : Nat) : Int) 1).toNat ≠ l0 := by
    rw [getElem_mid T F R l0 (unhide HTD2) (a - 1) (by omega) f5]
    exact xor_one l0
  generalize bits BinOp.xor IntKind.u8 ((T[a - 1].toNat : Nat) : Int) 1 = y at hbd0 hxb ⊢
  have hBs : (T.extract 0 (a - 1) ++ strOfNums [y] ++ T.extract a T.size).size ≤ maxLen := by
    have : (T.extract 0 (a - 1) ++ strOfNums [y] ++ T.extract a T.size).data.toList.length = (T.extract 0 (a - 1) ++ strOfNums [y] ++ T.extract a T.size).size := rfl
    rw [hbd0, List.length_append, List.length_append, List.length_singleton] at this
    unfold maxLen
    omega
  have hrd := unhide HLK (UInt8.ofNat y.toNat) (by simp; omega) hxb
  rw [← hbd0, bs_take] at hrd
  generalize T.extract 0 (a - 1) ++ strOfNums [y] ++ T.extract a T.size = Bd at hBs hrd ⊢
  have K4 := hide (((unhide K1).setT Bd).below (((Below.refl _ _).alloc (Nat.le_refl _) (.cells #[.int .u8 y] 5)).drew))
  generalize ((w3.setCell ⟨G, 0, none⟩ (.string Bd)).alloc (.cells #[.int .u8 y] 5)).drew = W4 at K4 ⊢
  have HRD := hide hrd
  have HBS := hide hBs
  clear hcv hsn hGl hc0' hfr hcA hfA hrd hbd0 hxb hBs HTD2 HLK K1 hc0 hc1 s1 s2 s3 hx0
  go_wp2_with fail
  refine (pick_any c2 100 _ h2 (by omega) (by omega)).mono ?_
  rintro e w5 ⟨p, hp, rfl, rfl⟩
  go_wp2_with fail
  go_loopw [8] (fun _ wr => ∃ vd ds j, j ≤ k ∧ Std ds (bs (xs.take j)) ∧ ds.length = 300 ∧ Dk w wr G Bd (.slice ao xs.length cap) xs vd ds j) (fun _ wr => k - (intOf ((wr.cell? ⟨G, 3, none⟩).getD undef)).toNat)
  case atStart => exact ⟨_, fmt 300, 0, Nat.zero_le _, fmt_std 300 (by omega) (by omega), fmt_length 300 (by omega), unhide K4⟩
  case round =>
    obtain ⟨vd, ds, j, hj, hstd, hdl, hK⟩ := hrel
    have hc3 := hK.cells.c3
    have HM := hide (show (intOf ((wr.cell? ⟨G, 3, none⟩).getD undef)).toNat = j by rw [hc3]; simp [intOf])
    have HK := hide hK
    have HSD := hide hstd
    clear hK hstd
    by_cases hle : j + (1 + p) ≤ k
    · have hd1 : decide ((j : Int) + (1 + (p : Int)) ≤ (k : Int)) = true := by simp; omega
      have hLA : LogAt xs ds j (1 + p) k 4 k := ⟨unhide HSD, hdl, by omega, by omega, hxl, unhide HX, by omega, by omega, .inr ⟨rfl, rfl, hle⟩⟩
      have htk : toK xs j (1 + p) = j + (1 + p) := by unfold toK; omega
      have hDS := dstep_full w wr G Bd (.slice ao xs.length cap) xs vd ds j (1 + p) k 4 k (unhide HK) hLA (unhide HRD) (unhide HBS) (unhide HT)
      rw [htk, Int.natCast_add] at hDS
      have HDS := hide hDS
      clear hLA hDS htk
      go_wp2_with fail
      refine (unhide HDS).mono ?_
      rintro e w6 ⟨rfl, vd6, ds6, hstd6, hdl6, hK6⟩
      have hc6 := hK6.cells.c3
      go_wp2_with fail
      go_roundw
      case rel => exact ⟨vd6, ds6, j + (1 + p), hle, hstd6, hdl6, hK6⟩
      case measure =>
        show k - (intOf ((w6.cell? ⟨G, 3, none⟩).getD undef)).toNat < k - (intOf ((wr.cell? ⟨G, 3, none⟩).getD undef)).toNat
        rw [unhide HM, hc6]
        simp [intOf]
        omega
    · have hd1 : decide ((j : Int) + (1 + (p : Int)) ≤ (k : Int)) = false := by simp; omega
      have hSR : stepR Bd.data.toList ds ((1 + p : Nat) : Int) = ([], 4, k) := by
        unfold stepR
        have hde : dEnt ds = (bs (xs.take j), 0) := by unfold dEnt; rw [(unhide HSD).ok]
        have hjl : (bs (xs.take j)).length = j := by rw [bs_length, List.length_take]; omega
        rw [hde, if_neg (by simp), if_neg (by omega), unhide HRD, Int.toNat_natCast]
        unfold stepOf
        rw [if_pos (.inr ⟨by simp, by simp only [hjl]; omega⟩)]
      have hSt := fun wq hd => Step_any Bd vd ds ((1 + p : Nat) : Int) wq (unhide HBS) hd
      rw [hSR, Int.natCast_add] at hSt
      have HSt := hide hSt
      have hr8 : wr.drew.cell? ⟨G, 0, none⟩ = some (.string Bd) ∧ wr.drew.cell? ⟨G, 2, none⟩ = some vd := ⟨(unhide HK).cells.c0, (unhide HK).cells.c2⟩
      have hkk : ((k : Int) == (k : Int)) = true := by simp
      clear hSR hSt
      go_upto_region 16 with fail
      go_region_held3 (fun w' => w'.cell? ⟨G, 0, none⟩ = some (.string Bd) ∧ w'.cell? ⟨G, 2, none⟩ = some vd) (first | (with_reducible exact hr8) | (with_reducible exact hr9)) ((go_at_call 42; refine (unhide HSt _ ((unhide HK).digs.below ((Below.refl wr.heap.size wr).drew) (Nat.le_refl _))).mono ?_; rintro e w7 ⟨vp, rfl, hown7, hb7'⟩; have hr9 : w7.cell? ⟨G, 0, none⟩ = some (.string Bd) ∧ w7.cell? ⟨G, 2, none⟩ = some vd := ⟨((unhide HK).below (drew_bel hb7')).cells.c0, ((unhide HK).below (drew_bel hb7')).cells.c2⟩))
      have hbel := ((unhide HK).below (drew_bel hb7')).bel
      obtain ⟨ap, cp, hvp⟩ := own_shape hown7
      subst hvp
      clear hr8 hr9 hown7 hb7' HK HSt
      go_wp2
      go_ret
      exact ⟨rfl, hbel⟩

set_option maxRecDepth 100000 in
set_option maxHeartbeats 800000 in
theorem stopped_none (v : Value) (ss : List ByteArray) (hxs : ents ss (min 100 ss.length) = []) (c1 c2 : Int) (w : World) (hS : Strs w v ss) (hsz : ∀ i, i < ss.length → (ss.getD i ByteArray.empty).size ≤ maxLen) (hT : Tabs w) :
    Calls Tryd.prog 12 #[v, .int .i64 c1, .int .i64 c2] w fun e w' => e = .returned (.bool true) ∧ Below w.heap.size w w' := by
  have HB := hide (begin_any v ss [] hxs w hS hsz hT)
  clear hS hsz hT hxs
  go_enter Tryd.func12, Tryd.ntmps12
  go_wp2_with fail
  refine (unhide HB).mono ?_
  rintro e w1 ⟨G, vl, vd, rfl, hK1⟩
  obtain ⟨ao, cap, hvl⟩ := own_shape hK1.ownl
  subst hvl
  have hc1 := hK1.cells.c1
  have hbel := hK1.bel
  clear hK1
  go_wp2
  go_ret
  exact ⟨rfl, hbel⟩
theorem stopped_any (v : Value) (ss : List ByteArray) (c1 c2 : Int) (w : World) (hS : Strs w v ss) (hsz : ∀ i, i < ss.length → (ss.getD i ByteArray.empty).size ≤ maxLen)
    (h1 : -9223372036854775808 ≤ c1 ∧ c1 ≤ 9223372036854775807) (h2 : -9223372036854775808 ≤ c2 ∧ c2 ≤ 9223372036854775807) (hT : Tabs w) :
    Calls Tryd.prog 12 #[v, .int .i64 c1, .int .i64 c2] w fun e w' => e = .returned (.bool true) ∧ Below w.heap.size w w' := by
  by_cases h : 0 < (ents ss (min 100 ss.length)).length
  · exact stopped_some v ss _ rfl h c1 c2 w hS hsz h1 h2 hT
  · exact stopped_none v ss (List.eq_nil_of_length_eq_zero (by omega)) c1 c2 w hS hsz hT
end Go.Proofs.YtanfolfopalbeaaDoor
