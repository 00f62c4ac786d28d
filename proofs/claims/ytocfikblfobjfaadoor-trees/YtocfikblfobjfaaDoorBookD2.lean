/- The book's sums: the contract. -/
import Derived.Test.YtocfikblfobjfaaDoorBookD
import Derived.Deep.RegionHeld3
namespace Go.Proofs.YtocfikblfobjfaaDoor
open Go.RowKit

theorem put_grown (w : World) (o : Obj) (cs : Array Value) : w.grownBy ((w.alloc o).setRow w.heap.size cs) none :=
  ⟨rfl, rfl, rfl, by rw [setRow_size]; simp, fun k hk _ => by rw [setRow_other _ _ _ _ (by omega)]; exact heap_alloc_old _ _ hk⟩
theorem info_digs : (Tryd.prog.info? 50).map (fun i => (i.zero, i.size, i.bytes)) = some (some (.slice none 0 0), 1, 24) := by kernel_rfl
theorem one_new (w : World) (x : Nat) (v : Value) (t : TypeId) (h : x = w.heap.size) : ∀ j u, [v][j]? = some u → (w.alloc (.cells #[v] t)).cell? ((⟨x, 0, none⟩ : Addr).add j) = some u := by
  subst h
  exact cell_one_new _ _ _
theorem size_set (w : World) (a : Addr) (v : Value) : w.heap.size = (w.setCell a v).heap.size := by simp [World.setCell]
theorem one_slc (a : Option Addr) (n c : Nat) : ∀ u ∈ [Value.slice a n c], u.oneCell' = true := by intro u hu; rw [List.mem_singleton.1 hu]; rfl
theorem at_app (i : Nat) {P : Program} {ops : Array Oper} {rest : List Oper} {Q : Exit → Act → World → Prop} {a : Act} {w : World} {y : Operand} {ts : Array TypeId} {d : Option Tmp} {t : TypeId} {pos : String} {af : Array Edge} {g : Option (Nat × Bool)}
    (h : wpList P ops Q ({ dst := d, op := .call { callee := .builtin .append, args := #[.tmp i, y], argTypes := ts }, type := t, pos := pos, after := af, guard := g } :: rest) a w) : wpList P ops Q ({ dst := d, op := .call { callee := .builtin .append, args := #[.tmp i, y], argTypes := ts }, type := t, pos := pos, after := af, guard := g } :: rest) a w := h
theorem fill_dig (x : List UInt8) (ls : List (List UInt8)) (i : Nat) (h : i < ls.length) : (List.replicate i x ++ ls.drop i).set i x = List.replicate (i + 1) x ++ ls.drop (i + 1) := by
  rw [List.set_append_right _ _ (by rw [List.length_replicate]; omega), List.length_replicate, Nat.sub_self, List.drop_eq_getElem_cons h, List.set_cons_zero, List.replicate_succ', List.append_assoc]
  rfl
theorem range_grown {w w' : World} {r : Option Nat} {R o : Nat} {cs : List Value} (h : w.rangeAt R o cs) (hg : w.grownBy w' r) (hr : r ≠ some R) : w'.rangeAt R o cs := fun j v hv => by
  have := h j v hv
  rw [World.cell?_of_block (hg.block R (cell_lt this) (fun e => hr e.symm))]
  exact this

/-- A mark's own row stands beside the lists. -/
theorem StD.add {P : Nat → Prop} {B : Nat} {w0 w : World} {G : Nat} {b : Bk} {tl : List Value} {xl : List (List UInt8)} {recs : List (Value × List UInt8)} {lv : Value} {nl : Nat} {ls : List (List UInt8)} (S : StD P B w0 w G b tl xl recs lv nl ls) {R : Nat} {t : List UInt8} (ht : t.length = 32) (hR : w.rangeAt R 0 (bcells t)) (hG : R ≠ G) (hd : b.dv.ownBlock ≠ some R) (he : b.ev.ownBlock ≠ some R) (hl : lv.ownBlock ≠ some R) :
    StD P B w0 w G b tl xl ((.slice (some ⟨R, 0, none⟩) 1 1, t) :: recs) lv nl ls := by
  refine ⟨S.bk, S.base, S.ht, S.hx, S.hl, ?_, ?_, S.tG, S.xG, S.lG, S.tx, S.tlv, S.xlv, S.bel, S.pr⟩
  · intro r hr
    rcases List.mem_cons.1 hr with rfl | hr
    · refine ⟨ht, _, 1, 1, rfl, Nat.le_refl _, by unfold maxLen; omega, fun _ => ⟨R, rfl, fun i hi => ?_⟩⟩
      obtain rfl : i = 0 := by omega
      exact hR
    · exact S.hf r hr
  · intro r hr g hg
    rcases List.mem_cons.1 hr with rfl | hr
    · have e : R = g := by injection hg
      subst e
      refine ⟨?_, hG, hd, he, fun h => absurd h hl⟩
      have h0 : 0 < (bcells t).length := by simp [bcells, ht]
      exact cell_lt (hR 0 _ (List.getElem?_eq_getElem h0))
    · exact S.hs r hr g hg
theorem StD.sub {P : Nat → Prop} {B : Nat} {w0 w : World} {G : Nat} {b : Bk} {tl : List Value} {xl : List (List UInt8)} {q : Value × List UInt8} {recs : List (Value × List UInt8)} {lv : Value} {nl : Nat} {ls : List (List UInt8)} (S : StD P B w0 w G b tl xl (q :: recs) lv nl ls) : StD P B w0 w G b tl xl recs lv nl ls :=
  ⟨S.bk, S.base, S.ht, S.hx, S.hl, fun r hr => S.hf r (List.mem_cons_of_mem _ hr), fun r hr => S.hs r (List.mem_cons_of_mem _ hr), S.tG, S.xG, S.lG, S.tx, S.tlv, S.xlv, S.bel, S.pr⟩
theorem StD.mark {P : Nat → Prop} {B : Nat} {w0 w : World} {G : Nat} {b : Bk} {tl : List Value} {xl : List (List UInt8)} {R : Nat} {t : List UInt8} {recs : List (Value × List UInt8)} {lv : Value} {nl : Nat} {ls : List (List UInt8)} (S : StD P B w0 w G b tl xl ((.slice (some ⟨R, 0, none⟩) 1 1, t) :: recs) lv nl ls) : w.rangeAt R 0 (bcells t) := by
  obtain ⟨_, ao, n, cap, he, _, _, h3⟩ := S.hf _ (List.mem_cons_self ..)
  injection he with e1 e2 e3
  subst e1 e2 e3
  obtain ⟨g, hg, hc⟩ := h3 (by omega)
  have e : R = g := by injection hg with hg; injection hg
  subst e
  exact hc 0 (by omega)
theorem StD.markE {P : Nat → Prop} {B : Nat} {w0 w : World} {G : Nat} {b : Bk} {tl : List Value} {xl : List (List UInt8)} {R : Nat} {t : List UInt8} {recs : List (Value × List UInt8)} {lv : Value} {nl : Nat} {ls : List (List UInt8)} (S : StD P B w0 w G b tl xl ((.slice (some ⟨R, 0, none⟩) 1 1, t) :: recs) lv nl ls) : b.ev.ownBlock ≠ some R :=
  (S.hs _ (List.mem_cons_self ..) R rfl).2.2.2.1
theorem StD.room {P : Nat → Prop} {B : Nat} {w0 w : World} {G : Nat} {b : Bk} {tl : List Value} {xl : List (List UInt8)} {recs : List (Value × List UInt8)} {lv : Value} {nl : Nat} {ls : List (List UInt8)} (S : StD P B w0 w G b tl xl recs lv nl ls) {g cap i : Nat} (hlv : lv = .slice (some ⟨g, 0, none⟩) nl cap) (hi : i < nl) : w.there g (i * 32) 32 := by
  rcases S.hl.2 with ⟨h, _⟩ | ⟨g', cap', cur, h, h1, h2, h3, h4, h5, h6⟩
  · rw [hlv] at h; cases h
  · rw [hlv] at h
    injection h with e1 _ e3
    injection e1 with e1
    injection e1 with e1
    subst e1 e3
    intro j hj
    refine ⟨?_, frozen_of_row w g _ _ _ h2⟩
    rw [cell_of_row w g _ _ _ _ h2, Array.getElem?_eq_getElem (by omega)]
    rfl

theorem bq_len (n : Nat) (h : n ≤ 1004) : n + 1 ≤ maxLen ∧ (n + 1) * 24 ≤ 140737488355328 ∧ (n + 1) * 32 ≤ 140737488355328 := ⟨by unfold maxLen; omega, by omega, by omega⟩

set_option maxRecDepth 100000 in
set_option maxHeartbeats 1600000 in
theorem bsums_any (P : Nat → Prop) (B G : Nat) (b : Bk) (w0 w : World) (recs : List (Value × List UInt8)) (lv : Value) (nl : Nat) (ls : List (List UInt8)) (S : StD P B w0 w G b (recs.map (·.1)) (recs.map (·.2)) recs lv nl ls)
    (hb : b.n ≤ 1000) (hnl : nl ≤ 1000) (hll : ls.length = nl) (hl32 : ∀ d ∈ ls, d.length = 32) (hrl : recs.length ≤ 1000) (hnew : ∀ r ∈ recs, ∀ g, lv.ownBlock = some g → r.1.ownBlock ≠ some g) :
    Calls Tryd.prog 42 #[.pointer (some ⟨G, 0, none⟩), lv] w fun e w' => ∃ b' recs', BkD P B w0 w' G b' recs' ∧ b'.n = b.n + 1 ∧ recs'.length = recs.length + 4 ∧ b'.tv = b.tv ∧ b'.kv = b.kv ∧ b'.pv = b.pv ∧ e = .returned (.tuple #[]) := by
  have hmk := mark_any G b w S.bk hb
  obtain ⟨iS, hiS, hzS0, hzS1, hzS2⟩ := info_parts info_digs
  obtain ⟨i0, hi0, hz0, hz1, hz2⟩ := info_parts info_dig
  have HS := hide S
  clear S
  obtain ⟨ao, cap, rfl⟩ := own_shape (unhide HS).hl
  go_enter Tryd.func42, Tryd.ntmps42
  go_wp2_with fail
  refine hmk.mono ?_
  rintro e w1 ⟨t, ht32, rfl, hB1, hg1⟩
  have S1 := (unhide HS).count hg1 hB1
  have hG1 := S1.bk.lt
  have hd1 := fun k h => (S1.ht.lt k h).2
  have he1 := fun k h => (S1.hx.lt k h).2
  have hl1 := fun k h => (S1.hl.lt k h).2
  have K1 := hide (v_dg t ht32)
  have K2 := hide (v_z32 t ht32)
  have K3 := hide (bcells_one t)
  have KM := hide (v_mid t ht32)
  have hrow : BRow ((w1.alloc (.cells (bcells z32).toArray 31)).setRow w1.heap.size (bcells t).toArray) w1.heap.size 31 t := heap_put_new _ _ _ _
  have hrng : ((w1.alloc (.cells (bcells z32).toArray 31)).setRow w1.heap.size (bcells t).toArray).rangeAt w1.heap.size 0 (bcells t) := fun j v hv => by
    rw [Nat.zero_add, cell_of_row _ _ j _ _ _ hrow]
    simpa using hv
  have S2 := (S1.later (put_grown w1 (.cells (bcells z32).toArray 31) (bcells t).toArray)).add ht32 hrng (by omega) (fun h => by have := hd1 _ h; omega) (fun h => by have := he1 _ h; omega) (fun h => by have := hl1 _ h; omega)
  have HNEW := hide (show ∀ r ∈ ((.slice (some ⟨w1.heap.size, 0, none⟩) 1 1, t) :: recs : List (Value × List UInt8)), ∀ g, (Value.slice ao nl cap).ownBlock = some g → r.1.ownBlock ≠ some g by
    intro r hr g hg h
    rcases List.mem_cons.1 hr with rfl | hr
    · have h2 := hl1 g hg
      have e : w1.heap.size = g := by injection h
      omega
    · exact hnew r hr g hg h)
  have HS2 := hide S2
  clear hrow hrng hB1 hg1 S1 S2 HS hmk hd1 he1 hl1 hG1 hnew
  go_wp2_with (((with_reducible refine at_store ?_); refine wpList_store_row rfl 31 _ _ rfl w1.heap.size (bcells t).toArray rfl rfl 31 _ (heap_alloc_new w1 _) (unhide K1) (unhide K2) (unhide K3) ?_))
  rw [← z32_cells]
  generalize ((w1.alloc (.cells (bcells z32).toArray 31)).setRow w1.heap.size (bcells t).toArray) = W2 at HS2 ⊢
  generalize w1.heap.size = R at HS2 HNEW ⊢
  clear K2
  go_loopw [5] (fun v wr => ∃ i : Nat, i ≤ nl ∧ v = .int .i64 i ∧ StD P B w0 wr G { b with n := b.n + 1 } (recs.map (·.1)) (recs.map (·.2)) ((.slice (some ⟨R, 0, none⟩) 1 1, t) :: recs) (.slice ao nl cap) nl (List.replicate i t ++ ls.drop i)) (fun v _ => nl - (intOf v).toNat)
  case atStart => exact ⟨0, Nat.zero_le _, rfl, unhide HS2⟩
  case round =>
    clear HS2
    obtain ⟨i, hi, rfl, S⟩ := hrel
    have HS := hide S
    by_cases hlt : i < nl
    · have hd : decide ((i : Int) < (nl : Int)) = true := by simp; omega
      have j0 : (0 : Int) ≤ (i : Int) := by omega
      have j1 : (i : Int) < (nl : Int) := by omega
      obtain ⟨g, hao⟩ : ∃ g, ao = some ⟨g, 0, none⟩ := by
        rcases S.hl.2 with ⟨h, h0⟩ | ⟨g, cap', cur, h, _⟩
        · omega
        · injection h with h _ _; exact ⟨g, h⟩
      subst hao
      have TH := hide (show wr.there g (i * 32) (bcells t).toArray.size by rw [bcells_size, ht32]; exact S.room rfl hlt)
      have HM := hide S.mark
      clear S
      go_wp2_with (first | ((with_reducible refine at_load ?_); refine wpList_load_mid rfl 31 _ rfl R 0 (by rfl) (bcells t) _ (unhide HM) Tryd.underlying31 rfl (unhide KM) ?_) | ((with_reducible refine at_store ?_); refine wpList_store_mid rfl 31 _ _ rfl g (i * 32) (bcells t).toArray (by rfl) (by rfl) (unhide TH) (unhide K1) (unhide K3) ?_))
      refine ⟨⟨i + 1, by omega, by go_num, ?_⟩, by simp [intOf]; omega⟩
      have := (unhide HS).put (i := i) (x := t) ht32 (fun d hd => by
        rcases List.mem_append.1 hd with hd | hd
        · rw [(List.mem_replicate.1 hd).2]; exact ht32
        · exact hl32 d (List.mem_of_mem_drop hd)) (by simp; omega) rfl (fun r hr => unhide HNEW r hr g rfl)
      rw [fill_dig _ _ _ (by omega)] at this
      exact this
    · have hd : decide ((i : Int) < (nl : Int)) = false := by simp; omega
      have S5 : StD P B w0 wr G { b with n := b.n + 1 } (recs.map (·.1)) (recs.map (·.2)) ((.slice (some ⟨R, 0, none⟩) 1 1, t) :: recs) (.slice ao nl cap) nl (List.replicate nl t) := by
        have h9 := S
        rw [show i = nl by omega, List.drop_eq_nil_of_le (by omega), List.append_nil] at h9
        exact h9
      have HS5 := hide S5
      clear S HS S5
      go_wp2
      go_loopw [1, 6] (fun lv tk wr => ∃ (k : Nat) (b' : Bk) (recs' : List (Value × List UInt8)), k ≤ 4 ∧ tk = .int .i64 k ∧ recs'.length = recs.length + k ∧ b'.n = b.n + 1 ∧ b'.tv = b.tv ∧ b'.kv = b.kv ∧ b'.pv = b.pv ∧ StD P B w0 wr G b' (recs'.map (·.1)) (recs'.map (·.2)) ((.slice (some ⟨R, 0, none⟩) 1 1, t) :: recs') lv (nl + k) (List.replicate (nl + k) t)) (fun _ tk _ => 4 - (intOf tk).toNat)
      case atStart => exact ⟨0, { b with n := b.n + 1 }, recs, by omega, rfl, rfl, rfl, rfl, rfl, rfl, unhide HS5⟩
      case round =>
        clear HS5
        obtain ⟨k, b', recs', hk, rfl, hrl', hn', htv, hkv, hpv, S⟩ := hrel
        have HN := hide hn'
        have HTV := hide htv
        have HKV := hide hkv
        have HPV := hide hpv
        clear hn' htv hkv hpv
        obtain ⟨al, cl, rfl⟩ := own_shape S.hl
        by_cases hlt4 : k < 4
        · have hd4 : decide ((k : Int) < 4) = true := by simp; omega
          have c3 := S.bk.c3
          have hN1 : (recs'.map (·.1)).length = recs.length + k := by rw [List.length_map]; exact hrl'
          have hN2 : (recs'.map (·.2)).length = recs.length + k := by rw [List.length_map]; exact hrl'
          have hB := S.sz
          have hbG := S.bk.lt
          have HRL := hide hrl'
          have HT1 := hide (show ∀ (y : Value) (z : List UInt8), (recs' ++ [(y, z)]).map (fun r : Value × List UInt8 => r.1) = recs'.map (fun r : Value × List UInt8 => r.1) ++ [y] from fun y z => by simp)
          have HT2 := hide (show ∀ (y : Value) (z : List UInt8), (recs' ++ [(y, z)]).map (fun r : Value × List UInt8 => r.2) = recs'.map (fun r : Value × List UInt8 => r.2) ++ [z] from fun y z => by simp)
          obtain ⟨q1, q2, _⟩ := bq_len (recs'.map (·.1)).length (by omega)
          obtain ⟨q3, _, q4⟩ := bq_len (recs'.map (·.2)).length (by omega)
          obtain ⟨q5, _, q6⟩ := bq_len (nl + k) (by omega)
          generalize recs'.map (·.1) = tl at S q1 q2 HT1
          generalize recs'.map (·.2) = xl at S q3 q4 HT2
          have HS := hide S
          clear S hN1 hN2 hrl'
          go_wp2_with (at_builtin; (with_reducible refine at_app 27 ?_); refine wpList_append_keeps _ rfl (.tmp 27) (.tmp 29) 49 rfl B 50 iS (.slice none 0 0) 1 24 Tryd.underlying49 hiS hzS0 hzS1 hzS2 rfl (by decide) _ _ _ rfl ((unhide HS).ht.alloc _) ⟨wr.heap.size, 0, none⟩ 1 1 [.slice al (nl + k) cl] rfl rfl (one_new _ _ _ _ rfl) (one_slc _ _ _) (by decide) q1 q2 (by simp; omega) ?_; intro ga ca wa hownA hgrowA hatA _ _; have hsA := hgrowA.size; have hBa := (unhide HS).bk.same ((grown_trans (World.grownBy_alloc wr _ _) hgrowA).block G hbG (fun e => (unhide HS).tG e.symm)); have c3a := hBa.c3; have f3a := hBa.free 3; have SA := hide ((unhide HS).texts hownA hgrowA hatA); clear hBa hownA hgrowA hatA)
          have SA1 := (unhide SA).later (grown_drew (grown_refl _ none))
          generalize (wa.setCell ⟨G, 3, none⟩ (.slice (some ⟨ga, 0, none⟩) (tl.length + 1) ca)) = WA at SA SA1 ⊢
          have hRa : WA.drew.rangeAt R 0 (bcells t) := SA1.mark
          have c4 : WA.drew.cell? ⟨G, 4, none⟩ = some b'.ev := SA1.bk.c4
          have c4b : ∀ o, (WA.alloc o).drew.cell? ⟨G, 4, none⟩ = some b'.ev := fun o => by rw [show (WA.alloc o).drew = WA.drew.alloc o from rfl, World.cell?_alloc_lt _ _ _ (by exact SA1.bk.lt)]; exact c4
          have HR1 := hide (show ∀ o, (WA.alloc o).drew.rangeAt R 0 (bcells t) from fun o => World.rangeAt_alloc hRa o)
          have hcl : (bcells t).length = 32 := by simp [bcells, ht32]
          have SA2 := hide SA1
          clear SA SA1 c3 c3a f3a
          refine wp_region_held_drew (S := fun w' => w'.rangeAt R 0 (bcells t)) (by kernel_rfl) hRa (fun hHeld => ?_)
          refine wpAnyH_take (i := 0) (v := .pointer (some ⟨G, 0, none⟩)) rfl (by kernel_rfl) (by kernel_rfl) (by kernel_rfl) (fun _ _ _ h => h) (Or.inl ⟨by rfl, fun _ _ => by go_simp⟩) hHeld ?_
          simp only [List.getElem_toArray, List.getElem_cons_zero, Act.put, List.setIfInBounds_toArray, List.set_cons_zero, List.set_cons_succ]
          refine wpAnyH_take (i := 1) (v := .pointer (some ⟨G, 0, none⟩)) rfl (by kernel_rfl) (by kernel_rfl) (by kernel_rfl) (fun _ _ _ h => h) (Or.inl ⟨by rfl, fun _ _ => by go_simp⟩) hHeld ?_
          simp only [List.getElem_toArray, List.getElem_cons_zero, List.getElem_cons_succ, Act.put, List.setIfInBounds_toArray, List.set_cons_zero, List.set_cons_succ]
          refine wpAnyH_take (i := 2) (v := .pointer (some ⟨G, 0, none⟩)) rfl (by kernel_rfl) (by kernel_rfl) (by kernel_rfl) (fun _ _ _ h => h) (Or.inl ⟨by rfl, fun _ _ => by go_simp⟩) hHeld ?_
          simp only [List.getElem_toArray, List.getElem_cons_zero, List.getElem_cons_succ, Act.put, List.setIfInBounds_toArray, List.set_cons_zero, List.set_cons_succ]
          refine wpAnyH_take (i := 3) (v := .pointer (some ⟨G, 4, none⟩)) rfl (by kernel_rfl) (by kernel_rfl) (by kernel_rfl) (fun _ _ _ h => h) (Or.inl ⟨by rfl, fun _ _ => by go_simp⟩) hHeld ?_
          simp only [List.getElem_toArray, List.getElem_cons_zero, List.getElem_cons_succ, Act.put, List.setIfInBounds_toArray, List.set_cons_zero, List.set_cons_succ]
          refine wpAnyH_take (i := 5) rfl (by kernel_rfl) (by kernel_rfl) (by kernel_rfl) (fun _ _ _ h => h) (yieldsIf_load_mid (by rfl) 31 _ rfl R 0 rfl (bcells t) _ (fun _ h => h) Tryd.underlying31 rfl (unhide KM)) hHeld ?_
          simp only [List.getElem_toArray, List.getElem_cons_zero, List.getElem_cons_succ, Act.put, List.setIfInBounds_toArray, List.set_cons_zero, List.set_cons_succ]
          refine wpAnyH_ready (rs := [4, 6]) (by kernel_rfl) (by simp) ?_
          refine AllReadyH.cons rfl (fun K hK => ?_) (AllReadyH.cons rfl (fun K hK => ?_) AllReadyH.nil)
          · go_simp
            refine hK.out _ _ hRa (fun hHeld => ?_)
            clear hK K
            refine wpAnyH_ready (rs := [6]) (by kernel_rfl) (by simp) ?_
            refine AllReadyH.cons rfl (fun K hK => ?_) AllReadyH.nil
            go_simp
            rw [← z32_cells, fold_dig t ht32]
            refine hK.out _ _ (unhide HR1 _) (fun hHeld => ?_)
            clear hK K
            refine wpAnyH_ready (rs := [7]) (by kernel_rfl) (by simp) ?_
            refine AllReadyH.cons rfl (fun K hK => ?_) AllReadyH.nil
            rw [if_pos (by rfl)]
            refine wp_append_keeps _ (.tmp 37) (.tmp 39) 50 rfl B 31 i0 (.agg (bcells z32).toArray) 32 32 Tryd.underlying50 hi0 hz0 hz1 hz2 rfl (by decide) _ _ _ rfl ((unhide SA2).hx.alloc _) ⟨WA.heap.size, 0, none⟩ 1 1 (bcells t) rfl (bcells_news t ht32) (news_new _ t _ _ rfl) (bcells_one' t) (by decide) q3 q4 (Nat.le_of_lt (Nat.lt_of_le_of_lt (unhide SA2).sz (by simp))) ?_
            intro gx cx wx hownX hgrowX0 hatX _ _
            have hgrowX : (WA.drew.alloc (.cells (bcells t).toArray 31)).grownBy wx b'.ev.ownBlock := hgrowX0
            have hBx := (unhide SA2).bk.same ((grown_trans (World.grownBy_alloc _ _ _) hgrowX).block G (unhide SA2).bk.lt (fun e => (unhide SA2).xG e.symm))
            have c4x := hBx.c4
            have f4x := hBx.free 4
            have hRx := range_grown (unhide HR1 _) hgrowX (unhide SA2).markE
            have SX := hide ((unhide SA2).text rfl ht32 hownX hgrowX hatX)
            clear hBx hownX hgrowX hgrowX0 hatX
            refine hK.out _ _ hRx (fun hHeld => ?_)
            clear hK K
            refine wpAnyH_take (i := 8) (v := .pointer (some ⟨G, 0, none⟩)) rfl (by kernel_rfl) (by kernel_rfl) (by kernel_rfl) (fun _ _ _ h => h) (Or.inl ⟨by rfl, fun _ _ => by go_simp⟩) hHeld ?_
            simp only [List.getElem_toArray, List.getElem_cons_zero, List.getElem_cons_succ, Act.put, List.setIfInBounds_toArray, List.set_cons_zero, List.set_cons_succ]
            refine wpAnyH_take (i := 9) (v := .pointer (some ⟨G, 4, none⟩)) rfl (by kernel_rfl) (by kernel_rfl) (by kernel_rfl) (fun _ _ _ h => h) (Or.inl ⟨by rfl, fun _ _ => by go_simp⟩) hHeld ?_
            simp only [List.getElem_toArray, List.getElem_cons_zero, List.getElem_cons_succ, Act.put, List.setIfInBounds_toArray, List.set_cons_zero, List.set_cons_succ]
            refine wpAnyH_ready (rs := [10]) (by kernel_rfl) (by simp) ?_
            refine AllReadyH.cons rfl (fun K hK => ?_) AllReadyH.nil
            go_simp
            refine hK.out _ _ (unhide SX).mark (fun _ => ?_)
            clear hK K c4x f4x c4 c4b HR1 hRa hRx hHeld SA2 HS
            generalize (wx.setCell ⟨G, 4, none⟩ (.slice (some ⟨gx, 0, none⟩) (xl.length + 1) cx)) = WX at SX ⊢
            refine wpAnyH_done (by kernel_rfl) ?_ _
            go_wp2_with (first | ((with_reducible refine at_load ?_); refine wpList_load_mid rfl 31 _ rfl R 0 (by rfl) (bcells t) _ (unhide SX).mark Tryd.underlying31 rfl (unhide KM) ?_) | (at_builtin; rw [← z32_cells, fold_dig t ht32]; refine wpList_append_keeps _ rfl (.tmp 43) (.tmp 45) 50 rfl B 31 i0 (.agg (bcells z32).toArray) 32 32 Tryd.underlying50 hi0 hz0 hz1 hz2 rfl (by decide) _ _ _ rfl ((unhide SX).hl.alloc _) ⟨WX.heap.size, 0, none⟩ 1 1 (bcells t) rfl (bcells_news t ht32) (news_new _ t _ _ rfl) (bcells_one' t) (by decide) q5 q6 (Nat.le_of_lt (Nat.lt_of_le_of_lt (unhide SX).sz (by simp))) ?_; intro gl cll wl hownL hgrowL hatL _ hkeepL; have SL := hide ((unhide SX).grow (ls' := List.replicate (nl + k + 1) t) (by rw [List.replicate_succ', dcells_snoc]; exact hownL) hgrowL hatL hkeepL); clear hownL hgrowL hatL hkeepL))
            refine ⟨⟨k + 1, { b' with dv := .slice (some ⟨ga, 0, none⟩) (tl.length + 1) ca, ev := .slice (some ⟨gx, 0, none⟩) (xl.length + 1) cx }, recs' ++ [(.slice al (nl + k) cl, t)], by omega, by go_num, by rw [List.length_append, unhide HRL]; rfl, unhide HN, unhide HTV, unhide HKV, unhide HPV, ?_⟩, by simp [intOf]; omega⟩
            have hSL := unhide SL
            rw [← unhide HT1 (.slice al (nl + k) cl) t, ← unhide HT2 (.slice al (nl + k) cl) t] at hSL
            exact hSL
          · go_simp
            rw [← z32_cells, fold_dig t ht32]
            refine hK.out _ _ (unhide HR1 _) (fun hHeld => ?_)
            clear hK K
            refine wpAnyH_ready (rs := [4]) (by kernel_rfl) (by simp) ?_
            refine AllReadyH.cons rfl (fun K hK => ?_) AllReadyH.nil
            go_simp
            refine hK.out _ _ (unhide HR1 _) (fun hHeld => ?_)
            clear hK K
            refine wpAnyH_ready (rs := [7]) (by kernel_rfl) (by simp) ?_
            refine AllReadyH.cons rfl (fun K hK => ?_) AllReadyH.nil
            rw [if_pos (by rfl)]
            refine wp_append_keeps _ (.tmp 37) (.tmp 39) 50 rfl B 31 i0 (.agg (bcells z32).toArray) 32 32 Tryd.underlying50 hi0 hz0 hz1 hz2 rfl (by decide) _ _ _ rfl ((unhide SA2).hx.alloc _) ⟨WA.heap.size, 0, none⟩ 1 1 (bcells t) rfl (bcells_news t ht32) (news_new _ t _ _ rfl) (bcells_one' t) (by decide) q3 q4 (Nat.le_of_lt (Nat.lt_of_le_of_lt (unhide SA2).sz (by simp))) ?_
            intro gx cx wx hownX hgrowX0 hatX _ _
            have hgrowX : (WA.drew.alloc (.cells (bcells t).toArray 31)).grownBy wx b'.ev.ownBlock := hgrowX0
            have hBx := (unhide SA2).bk.same ((grown_trans (World.grownBy_alloc _ _ _) hgrowX).block G (unhide SA2).bk.lt (fun e => (unhide SA2).xG e.symm))
            have c4x := hBx.c4
            have f4x := hBx.free 4
            have hRx := range_grown (unhide HR1 _) hgrowX (unhide SA2).markE
            have SX := hide ((unhide SA2).text rfl ht32 hownX hgrowX hatX)
            clear hBx hownX hgrowX hgrowX0 hatX
            refine hK.out _ _ hRx (fun hHeld => ?_)
            clear hK K
            refine wpAnyH_take (i := 8) (v := .pointer (some ⟨G, 0, none⟩)) rfl (by kernel_rfl) (by kernel_rfl) (by kernel_rfl) (fun _ _ _ h => h) (Or.inl ⟨by rfl, fun _ _ => by go_simp⟩) hHeld ?_
            simp only [List.getElem_toArray, List.getElem_cons_zero, List.getElem_cons_succ, Act.put, List.setIfInBounds_toArray, List.set_cons_zero, List.set_cons_succ]
            refine wpAnyH_take (i := 9) (v := .pointer (some ⟨G, 4, none⟩)) rfl (by kernel_rfl) (by kernel_rfl) (by kernel_rfl) (fun _ _ _ h => h) (Or.inl ⟨by rfl, fun _ _ => by go_simp⟩) hHeld ?_
            simp only [List.getElem_toArray, List.getElem_cons_zero, List.getElem_cons_succ, Act.put, List.setIfInBounds_toArray, List.set_cons_zero, List.set_cons_succ]
            refine wpAnyH_ready (rs := [10]) (by kernel_rfl) (by simp) ?_
            refine AllReadyH.cons rfl (fun K hK => ?_) AllReadyH.nil
            go_simp
            refine hK.out _ _ (unhide SX).mark (fun _ => ?_)
            clear hK K c4x f4x c4 c4b HR1 hRa hRx hHeld SA2 HS
            generalize (wx.setCell ⟨G, 4, none⟩ (.slice (some ⟨gx, 0, none⟩) (xl.length + 1) cx)) = WX at SX ⊢
            refine wpAnyH_done (by kernel_rfl) ?_ _
            go_wp2_with (first | ((with_reducible refine at_load ?_); refine wpList_load_mid rfl 31 _ rfl R 0 (by rfl) (bcells t) _ (unhide SX).mark Tryd.underlying31 rfl (unhide KM) ?_) | (at_builtin; rw [← z32_cells, fold_dig t ht32]; refine wpList_append_keeps _ rfl (.tmp 43) (.tmp 45) 50 rfl B 31 i0 (.agg (bcells z32).toArray) 32 32 Tryd.underlying50 hi0 hz0 hz1 hz2 rfl (by decide) _ _ _ rfl ((unhide SX).hl.alloc _) ⟨WX.heap.size, 0, none⟩ 1 1 (bcells t) rfl (bcells_news t ht32) (news_new _ t _ _ rfl) (bcells_one' t) (by decide) q5 q6 (Nat.le_of_lt (Nat.lt_of_le_of_lt (unhide SX).sz (by simp))) ?_; intro gl cll wl hownL hgrowL hatL _ hkeepL; have SL := hide ((unhide SX).grow (ls' := List.replicate (nl + k + 1) t) (by rw [List.replicate_succ', dcells_snoc]; exact hownL) hgrowL hatL hkeepL); clear hownL hgrowL hatL hkeepL))
            refine ⟨⟨k + 1, { b' with dv := .slice (some ⟨ga, 0, none⟩) (tl.length + 1) ca, ev := .slice (some ⟨gx, 0, none⟩) (xl.length + 1) cx }, recs' ++ [(.slice al (nl + k) cl, t)], by omega, by go_num, by rw [List.length_append, unhide HRL]; rfl, unhide HN, unhide HTV, unhide HKV, unhide HPV, ?_⟩, by simp [intOf]; omega⟩
            have hSL := unhide SL
            rw [← unhide HT1 (.slice al (nl + k) cl) t, ← unhide HT2 (.slice al (nl + k) cl) t] at hSL
            exact hSL
        · have hd4 : decide ((k : Int) < 4) = false := by simp; omega
          have hk4 : k = 4 := by omega
          have HS := hide S.sub.drop
          clear S
          rw [hk4] at hrl'
          have HRL := hide hrl'
          clear hrl' hk4
          go_wp2
          exact bodyPost_end (results_none Tryd.results42 _ _ _) rfl ⟨b', recs', unhide HS, unhide HN, unhide HRL, unhide HTV, unhide HKV, unhide HPV, rfl⟩
end Go.Proofs.YtocfikblfobjfaaDoor
