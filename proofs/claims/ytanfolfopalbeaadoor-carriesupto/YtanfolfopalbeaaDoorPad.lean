import Derived.Test.YtanfolfopalbeaaDoorBlock
import Derived.Test.YtanfolfopalbeaaDoorWrite
namespace Go.Proofs.YtanfolfopalbeaaDoor
open Go.RowKit

/-- v is a slice of one-cell elements that the call itself has made; a mark of its row, where there is one, lies behind its cells. -/
def OwnM (w : World) (base : Nat) (e : TypeId) (v : Value) (xs : List Value) : Prop :=
  ∃ g cap cur fz, v = .slice (some ⟨g, 0, none⟩) xs.length cap ∧ base ≤ g ∧ w.heap[g]? = some (.cells cur e fz) ∧ (fz = (0, 0) ∨ cur.size ≤ fz.1) ∧ xs.length ≤ cap ∧ cap ≤ maxLen ∧ cur.size = cap ∧ cur.toList.take xs.length = xs

theorem OwnM.alloc {w : World} {base : Nat} {e : TypeId} {v : Value} {xs : List Value} (h : OwnM w base e v xs) (o : Obj) : OwnM (w.alloc o) base e v xs := by
  obtain ⟨g, cap, cur, fz, h1, h2, h3, h4⟩ := h
  exact ⟨g, cap, cur, fz, h1, h2, by rw [heap_alloc_old _ _ (lt_of_block h3)]; exact h3, h4⟩
theorem OwnM.shape {w : World} {base : Nat} {e : TypeId} {v : Value} {xs : List Value} (h : OwnM w base e v xs) : ∃ ao cap, v = .slice ao xs.length cap := by
  obtain ⟨g, cap, cur, fz, h1, _⟩ := h
  exact ⟨_, _, h1⟩
theorem OwnM.cells {w : World} {base g cap : Nat} {e : TypeId} {xs : List Value} (h : OwnM w base e (.slice (some ⟨g, 0, none⟩) xs.length cap) xs) (j : Nat) (hj : j < xs.length) : w.cell? ⟨g, j, none⟩ = xs[j]? := by
  obtain ⟨g', cap', cur, fz, h1, h2, h3, h4, h5, h6, h7, h8⟩ := h
  simp only [Value.slice.injEq, Option.some.injEq, Addr.mk.injEq, and_true, true_and] at h1
  obtain ⟨rfl, rfl⟩ := h1
  rw [cell_of_row w g j _ _ _ h3]
  have e1 : (cur.toList.take xs.length)[j]? = xs[j]? := by rw [h8]
  rw [List.getElem?_take_of_lt hj] at e1
  simpa using e1

/-- append(v, x): one element more. -/
theorem run_append_M {P : Program} (w : World) (base : Nat) (t ty e : TypeId) (i : TypeInfo) (z : Value) (ht : P.underlying t = some (.slice e)) (hi : P.info? e = some i) (hz : i.zero = some z)
    (hsize : i.size = 1) (hby : i.bytes ≤ 16) (hzs : z.cells.size = 1) (v : Value) (xs : List Value) (hown : OwnM w base e v xs)
    (ad : Addr) (c : Nat) (x : Value) (hx : w.cell? ad = some x) (h1 : x.oneCell' = true) (hlen : xs.length ≤ 1000000000000) (hbase : base ≤ w.heap.size) :
    ∃ v' w', (Builtin.append_ #[t, t] ty #[v, .slice (some ad) 1 c]).run P w = .ok v' w' ∧ OwnM w' base e v' (xs ++ [x]) ∧ w.grownBy w' v.ownBlock := by
  obtain ⟨g, cap, cur, fz, rfl, hbg, hg, hfz, hnc, hcm, hcs, htake⟩ := hown
  have hnews : ∀ j u, [x][j]? = some u → w.cell? (ad.add j) = some u := by
    intro j u hj
    cases j with
    | zero =>
      simp at hj
      subst hj
      have e0 : ad.add 0 = ad := by unfold Addr.add; simp
      rw [e0]
      exact hx
    | succ j => simp at hj
  have hl : [x].length = 1 * i.size := by rw [hsize]; rfl
  by_cases hroom : xs.length + 1 ≤ cap
  · have hf := run_firstCells_some (P := P) w i.size 1 ad 1 c [x] hl hnews
    have hin : xs.length < cur.size := by omega
    have hcell : w.cell? ⟨g, xs.length, none⟩ = some cur[xs.length] := by simp [World.cell?, hg, hin]
    have hfro : w.frozen? ⟨g, xs.length, none⟩ = false := by
      unfold World.frozen?
      rw [hg]
      obtain ⟨lo, hi'⟩ := fz
      simp only [Bool.and_eq_false_iff, decide_eq_false_iff_not]
      rcases hfz with h | h
      · right
        simp only [Prod.mk.injEq] at h
        omega
      · left
        simp only at h
        omega
    have hst : (storeCells ⟨g, xs.length * i.size, none⟩ [x] 0).run P w = .ok () (w.setRow g (cur.setIfInBounds xs.length x)) := by
      rw [hsize, Nat.mul_one]
      have h0 : (store ((⟨g, xs.length, none⟩ : Addr).add 0) x).run P w = .ok () (w.setRow g (cur.setIfInBounds xs.length x)) := by
        rw [Addr.add_lit, Nat.add_zero, run_store P w _ x _ h1, hcell]
        simp [hfro, setCell_eq_setRow w g xs.length cur e fz x hg]
      simp [storeCells, h0]
    refine ⟨.slice (some ⟨g, 0, none⟩) (xs.length + 1) cap, w.setRow g (cur.setIfInBounds xs.length x), ?_, ⟨g, cap, _, fz, by simp, hbg, setRow_heap w g cur _ e _ hg, ?_, by simpa using hroom, hcm, by simpa using hcs, ?_⟩, ⟨rfl, rfl, rfl, by simp, fun k _ hk => setRow_other w g k _ (fun e => hk (by simp [Value.ownBlock, e]))⟩⟩
    · simp [Builtin.append_, run_underlying ht, sizeOf, typeInfo, hi, Builtin.lenOf, hroom, hf, Addr.add_lit, hst]
    · rcases hfz with h | h
      · exact .inl h
      · exact .inr (by simpa using h)
    · rw [Array.toList_setIfInBounds, List.length_append, List.length_singleton]
      have hcl : xs.length < cur.toList.length := by simpa using hin
      have e1 : (cur.toList.set xs.length x).take (xs.length + 1) = (cur.toList.set xs.length x).take xs.length ++ [x] := by
        rw [List.take_succ_eq_append_getElem (by simpa using hin)]
        simp
      rw [e1, List.take_set_of_le (Nat.le_refl _), htake]
  · have holds : ∀ j u, xs[j]? = some u → w.cell? ((⟨g, 0, none⟩ : Addr).add j) = some u := by
      intro j u hj
      have hj' : j < xs.length := (List.getElem?_eq_some_iff.1 hj).1
      rw [Addr.add_lit, Nat.zero_add, cell_of_row w g j _ _ _ hg, ← hj]
      have e1 : (cur.toList.take xs.length)[j]? = xs[j]? := by rw [htake]
      rw [List.getElem?_take_of_lt hj'] at e1
      simpa using e1
    have hfit : (xs.length + 1) * i.bytes ≤ 140737488355328 := Nat.le_trans (Nat.mul_le_mul_left _ hby) (by omega)
    have hr := run_append_grow (P := P) w t ty e i z ht hi hz ⟨g, 0, none⟩ xs.length cap xs (by rw [hsize, Nat.mul_one]) holds ad 1 c [x] hl hnews (by omega) (by omega) (growslice_fits (by omega) hfit)
    have hge := grownCap_ge w (xs.length + 1) cap e
    have hcm2 : grownCap w (xs.length + 1) cap e ≤ maxLen := grownCap_le_maxLen w (xs.length + 1) cap e (by unfold maxLen; omega)
    refine ⟨_, _, hr, ⟨w.heap.size, _, _, (0, 0), by simp, hbase, heap_alloc_new w.drew _, .inl rfl, by simpa using hge, hcm2, ?_, ?_⟩, ⟨rfl, rfl, rfl, by simp, fun k hk _ => heap_alloc_old w.drew _ hk⟩⟩
    · simp only [Array.size_append, List.size_toArray, size_zeroCells, hzs, List.length_singleton]
      omega
    · rw [Array.toList_append, Array.toList_append, List.length_append, List.length_singleton]
      exact List.take_left' (by simp)

theorem wpList_append_M {P : Program} (w : World) {ops : Array Oper} {rest : List Oper} {o : Oper} {a : Act} {Q : Exit → Act → World → Prop} (hgd : o.guard = none) (s x : Operand) (t : TypeId)
    (ho : o.op = .call { callee := .builtin .append, args := #[s, x], argTypes := #[t, t] })
    (base : Nat) (e : TypeId) (i : TypeInfo) (z : Value) (ht : P.underlying t = some (.slice e)) (hi : P.info? e = some i) (hz : i.zero = some z)
    (hsize : i.size = 1) (hby : i.bytes ≤ 16) (hzs : z.cells.size = 1) (v : Value) (xs : List Value) (hs : a.eval s = v) (hown : OwnM w base e v xs)
    (ad : Addr) (c : Nat) (y : Value) (hx : a.eval x = .slice (some ad) 1 c) (hy : w.cell? ad = some y) (h1 : y.oneCell' = true) (hlen : xs.length ≤ 1000000000000) (hbase : base ≤ w.heap.size)
    (h : ∀ v' w', OwnM w' base e v' (xs ++ [y]) → w.grownBy w' v.ownBlock → wpList P ops Q rest (a.put o.dst v') w') : wpList P ops Q (o :: rest) a w := by
  refine wpList_plain hgd fun K hK => ?_
  obtain ⟨v', w', hr, h2, h3⟩ := run_append_M (P := P) w base t o.type e i z ht hi hz hsize hby hzs v xs hown ad c y hy h1 hlen hbase
  unfold Oper.wp execOp
  simp only [ho, resolve, invoke, builtin, Sem.run_bind, Sem.run_pure, Result.andThen_ok, List.map_toArray, List.map_cons, List.map_nil, hs, hx, hr]
  exact hK _ _ (h v' w' h2 h3)
theorem ownM_ge {w : World} {base : Nat} {e : TypeId} {v : Value} {xs : List Value} (h : OwnM w base e v xs) : ∀ k, v.ownBlock = some k → base ≤ k := by
  obtain ⟨g, cap, cur, fz, rfl, hb, _⟩ := h
  intro k hk
  simp [Value.ownBlock] at hk
  omega

theorem ownM_of_bytes (w : World) (s : ByteArray) (e : TypeId) (cap : Nat) (h1 : s.size ≤ cap) (h2 : cap ≤ maxLen) :
    OwnM (w.drew.alloc (.cells (bytesRow s cap) e ((bytesRow s cap).size, (bytesRow s cap).size + 1))) w.heap.size e (.slice (some ⟨w.heap.size, 0, none⟩) s.size cap) (bcells s.data.toList) := by
  have hs : (bcells s.data.toList).length = s.size := by rw [bcells_length]; rfl
  refine ⟨w.heap.size, cap, bytesRow s cap, _, by rw [hs], Nat.le_refl _, heap_alloc_new w.drew _, .inr (Nat.le_refl _), by rw [hs]; exact h1, h2, ?_, ?_⟩
  · unfold bytesRow
    rw [Array.size_append, Array.size_map, Array.size_replicate]
    have : s.data.size = s.size := rfl
    omega
  · unfold bytesRow bcells
    rw [Array.toList_append, Array.toList_map, List.length_map]
    rw [List.take_append_of_le_length (by simp), List.take_of_length_le (by simp)]

set_option maxRecDepth 100000 in
set_option maxHeartbeats 400000 in
theorem pad_any (s : ByteArray) (n : Nat) (w : World) (hs : s.size < 64) (hn : n ≤ 140737488351232) :
    Calls Tryd.prog 89 #[.string s, .int .i64 n] w fun e w' => e = .returned (.string (mk (padL s.data.toList n))) ∧ Below w.heap.size w w' := by
  obtain ⟨i0, hi, hz0, hz1, hz2⟩ := info_parts info_u8
  have hcv := run_bytes_of_string (P := Tryd.prog) w 9 45 5 s Tryd.underlying9 Tryd.underlying45 Tryd.underlying5
  have hge := grownCap_ge w s.size 0 5
  have hcm : grownCap w s.size 0 5 ≤ maxLen := grownCap_le_maxLen w s.size 0 5 (by unfold maxLen; omega)
  generalize grownCap w s.size 0 5 = cp at *
  have hown := ownM_of_bytes w s 5 cp hge hcm
  have hbel : Below w.heap.size w (w.drew.alloc (.cells (bytesRow s cp) 5 ((bytesRow s cp).size, (bytesRow s cp).size + 1))) := (Below.refl _ _).drew.alloc (by exact Nat.le_refl _) _
  generalize w.drew.alloc (.cells (bytesRow s cp) 5 ((bytesRow s cp).size, (bytesRow s cp).size + 1)) = w1 at *
  have hsz1 := hbel.size
  go_enter Tryd.func89, Tryd.ntmps89
  go_wp2_with (at_builtin; go_must (refine wpList_append_M _ rfl (.tmp 10) (.tmp 11) 45 rfl w.heap.size 5 i0 (.int .u8 0) Tryd.underlying45 hi hz0 hz1 ?c0 rfl _ _ rfl (hown.alloc _) ⟨w1.heap.size, 0, none⟩ 1 (.int .u8 128) rfl ?c1 rfl ?c2 ?c3 ?_))
  case c0 => omega
  case c1 => exact World.cell?_alloc_mark _ _ _ _ _
  case c2 => rw [bcells_length]; have : s.data.toList.length = s.size := rfl; omega
  case c3 => simp; omega
  intro v2 w2 hown2 hgrow2
  have hbel2 : Below w.heap.size w w2 := (hbel.alloc hsz1 _).grown hgrow2 (by simp; omega) (ownM_ge hown)
  have e2 : bcells s.data.toList ++ [Value.int .u8 128] = bcells (s.data.toList ++ [128]) := by rw [bcells_append]; rfl
  rw [e2] at hown2
  have hl0 : (s.data.toList ++ [128]).length = s.size + 1 := by rw [List.length_append]; rfl
  have HP := hide (show padL s.data.toList n = (s.data.toList ++ [128]) ++ List.replicate (zs (s.size + 1)) 0 ++ lenB (n * 8 % 18446744073709551616) 8 from rfl)
  generalize s.data.toList ++ [128] = l0 at hown2 hl0 HP
  have hJ : zs (s.size + 1) < 64 := by unfold zs; omega
  have hJ2 : (s.size + 1 + zs (s.size + 1)) % 64 = 56 := by unfold zs; omega
  have hJ3 : ∀ j, j < zs (s.size + 1) → (s.size + 1 + j) % 64 ≠ 56 := by unfold zs; omega
  generalize zs (s.size + 1) = J at hJ hJ2 hJ3 HP
  have HJ := hide hJ3
  clear hgrow2 hbel hown hJ3 e2 hcv hge hcm
  go_wp2
  go_loopw [5] (fun v wr => ∃ j : Nat, j ≤ J ∧ OwnM wr w.heap.size 5 v (bcells (l0 ++ List.replicate j 0)) ∧ Below w.heap.size w wr) (fun v _ => (match v with | .slice _ m _ => s.size + 1 + J - m | _ => 0))
  case atStart => exact ⟨0, Nat.zero_le _, by rw [List.replicate_zero, List.append_nil]; exact hown2, hbel2⟩
  case round =>
    obtain ⟨j, hj, hown, hbel⟩ := hrel
    obtain ⟨ao, cap, hv⟩ := hown.shape
    have hlj : (bcells (l0 ++ List.replicate j 0)).length = s.size + 1 + j := by rw [bcells_length, List.length_append, List.length_replicate, hl0]
    rw [hlj] at hv
    subst hv
    have hszr := hbel.size
    by_cases hlt : j < J
    · have hne := unhide HJ j hlt
      have hd : (((s.size + 1 + j : Nat) : Int) % 64 != 56) = true := by rw [bne_iff_ne]; omega
      go_wp2_with (at_builtin; go_must (refine wpList_append_M _ rfl (.tmp 17) (.tmp 18) 45 rfl w.heap.size 5 i0 (.int .u8 0) Tryd.underlying45 hi hz0 hz1 ?f0 rfl _ _ rfl (hown.alloc _) ⟨wr.heap.size, 0, none⟩ 1 (.int .u8 0) rfl ?f1 rfl ?f2 ?f3 ?_))
      case f0 => omega
      case f1 => exact World.cell?_alloc_mark _ _ _ _ _
      case f2 => omega
      case f3 => simp; omega
      intro v3 w3 hown3 hgrow3
      have hbel3 : Below w.heap.size w w3 := (hbel.alloc hszr _).grown hgrow3 (by simp; omega) (ownM_ge hown)
      have e3 : bcells (l0 ++ List.replicate j 0) ++ [Value.int .u8 0] = bcells (l0 ++ List.replicate (j + 1) 0) := by
        rw [List.replicate_succ', ← List.append_assoc, bcells_append (l0 ++ List.replicate j 0)]; rfl
      rw [e3] at hown3
      obtain ⟨ao3, cap3, hv3⟩ := hown3.shape
      have hlj3 : (bcells (l0 ++ List.replicate (j + 1) 0)).length = s.size + 1 + j + 1 := by rw [bcells_length, List.length_append, List.length_replicate, hl0]; omega
      rw [hlj3] at hv3
      rw [hv3] at hown3 ⊢
      clear hv3 hlj3 hgrow3 e3 hown hbel
      go_wp2
      go_roundw
      case rel => exact ⟨j + 1, by omega, hown3, hbel3⟩
      case measure => simp; omega
    · have hje : j = J := by omega
      subst hje
      generalize l0 ++ List.replicate j 0 = l1 at hown HP hlj
      rw [bcells_length] at hlj
      have hx0 : n * 8 % 18446744073709551616 = n * 8 := by omega
      have HP2 := hide (show padL s.data.toList n = l1 ++ lenB (n * 8) 8 by rw [unhide HP, hx0])
      have hm : (s.size + 1 + j) % 64 = 56 := hJ2
      have hlen1 : s.size + 1 + j ≤ 200 := by omega
      generalize s.size + 1 + j = q at hown hlj hm hlen1 ⊢
      clear HP hx0 HJ hJ2
      have hd : ((q : Int) % 64 != 56) = false := by rw [bne_eq_false_iff_eq]; omega
      go_wp2
      go_loopw [5, 6, 7] (fun v b i wq => ∃ k : Nat, k ≤ 8 ∧ i = .int .i64 k ∧ b = .int .u64 (bsh (n * 8) k) ∧ OwnM wq w.heap.size 5 v (bcells (l1 ++ lenB (n * 8) k)) ∧ Below w.heap.size w wq) (fun _ _ i _ => 8 - (intOf i).toNat)
      case atStart => exact ⟨0, by omega, rfl, val_int (by show _ = ((n * 8 : Nat) : Int); omega), by rw [show lenB (n * 8) 0 = [] from rfl, List.append_nil]; exact hown, hbel⟩
      case round =>
        obtain ⟨k, hk, rfl, rfl, hown, hbel⟩ := hrel
        have hszr := hbel.size
        have hbl := bsh_lt (n * 8) k (by omega)
        by_cases hlt : k < 8
        · have HL := hide (lenB_succ (n * 8) k)
          generalize hbe : bsh (n * 8) k = bk at hbl HL ⊢
          have HBE := hide hbe
          clear hbe
          have hlen2 : (bcells (l1 ++ lenB (n * 8) k)).length ≤ 300 := by rw [bcells_length, List.length_append, hlj]; simp [lenB]; omega
          go_wp2_with (at_builtin; go_must (refine wpList_append_M _ rfl (.tmp 27) (.tmp 31) 45 rfl w.heap.size 5 i0 (.int .u8 0) Tryd.underlying45 hi hz0 hz1 ?g0 rfl _ _ rfl (hown.alloc _) ⟨wr.heap.size, 0, none⟩ 1 (.int .u8 ((bk : Int) / 72057594037927936)) rfl ?g1 rfl ?g2 ?g3 ?_))
          case g0 => omega
          case g1 => exact World.cell?_alloc_mark _ _ _ _ _
          case g2 => omega
          case g3 => simp; omega
          intro v3 w3 hown3 hgrow3
          have hbel3 : Below w.heap.size w w3 := (hbel.alloc hszr _).grown hgrow3 (by simp; omega) (ownM_ge hown)
          have e3 : bcells (l1 ++ lenB (n * 8) k) ++ [Value.int .u8 ((bk : Int) / 72057594037927936)] = bcells (l1 ++ lenB (n * 8) (k + 1)) := by
            rw [unhide HL, ← List.append_assoc, bcells_append (l1 ++ lenB (n * 8) k)]
            congr 1
            simp only [bcells, List.map_cons, List.map_nil]
            rw [UInt8.toNat_ofNat']
            exact congrArg (fun x => [Value.int .u8 x]) (by omega)
          rw [e3] at hown3
          clear hgrow3 e3 hown hbel hlen2
          go_wp2
          go_roundw
          case rel => exact ⟨k + 1, by omega, by go_num, val_int (by rw [bsh_succ, unhide HBE, IntKind.wrap_u64]; omega), hown3, hbel3⟩
          case measure => simp [intOf]; omega
        · have hke : k = 8 := by omega
          rw [hke] at hown
          rw [← unhide HP2] at hown
          have hd : decide ((k : Int) < 8) = false := by simp; omega
          obtain ⟨g, cap, cur, fz, rfl, hrest⟩ := hown
          have hown : OwnM wr w.heap.size 5 (.slice (some ⟨g, 0, none⟩) (bcells (padL s.data.toList n)).length cap) (bcells (padL s.data.toList n)) := ⟨g, cap, cur, fz, rfl, hrest⟩
          have hcv := run_convert_bytes_back (P := Tryd.prog) wr 45 9 5 ⟨g, 0, none⟩ cap (padL s.data.toList n) Tryd.underlying45 Tryd.underlying5 Tryd.underlying9 (by
            intro j hj
            rw [Addr.add_lit, Nat.zero_add, hown.cells j (by rw [bcells_length]; exact hj)]
            simp [bcells, List.getElem?_eq_getElem hj])
          rw [bcells_length]
          clear hown hrest hke HP2
          generalize hpe : padL s.data.toList n = pl at hcv ⊢
          have HPE := hide hpe
          clear hpe
          go_wp2
          go_ret
          exact ⟨by rw [unhide HPE]; rfl, hbel⟩
end Go.Proofs.YtanfolfopalbeaaDoor
