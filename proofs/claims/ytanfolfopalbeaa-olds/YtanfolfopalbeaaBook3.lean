import Derived.Test.YtanfolfopalbeaaBook2
namespace Go.Proofs.Ytanfolfopalbeaa
open Go.RowKit

theorem put_grown (w : World) (o : Obj) (cs : Array Value) : w.grownBy ((w.alloc o).setRow w.heap.size cs) none :=
  ⟨rfl, rfl, rfl, by rw [setRow_size]; simp, fun k hk _ => by rw [setRow_other _ _ _ _ (by omega)]; exact heap_alloc_old _ _ hk⟩

theorem bcells_size2 (l : List UInt8) : (bcells l).toArray.size = l.length := by simp [bcells]
theorem bcells_one2 (l : List UInt8) : (bcells l).toArray.all (·.oneCell') = true := by
  rw [Array.all_eq_true']
  intro v hv
  simp only [bcells, List.mem_toArray, List.mem_map] at hv
  obtain ⟨n, _, rfl⟩ := hv
  rfl
theorem bcells_at2 (l : List UInt8) (j : Nat) (h : j < l.length) : (bcells l)[j]? = some (.int .u8 ((l[j].toNat : Nat) : Int)) := by
  simp [bcells, List.getElem?_eq_getElem h]

theorem info_strs : (Try.prog.info? 22).map (fun i => (i.zero, i.size, i.bytes)) = some (some (.slice none 0 0), 1, 24) := by kernel_rfl
theorem one_new (w : World) (x : Nat) (v : Value) (t : TypeId) (h : x = w.heap.size) : ∀ j u, [v][j]? = some u → (w.alloc (.cells #[v] t)).cell? ((⟨x, 0, none⟩ : Addr).add j) = some u := by
  subst h
  exact cell_one_new _ _ _
theorem size_set (w : World) (a : Addr) (v : Value) : w.heap.size = (w.setCell a v).heap.size := by simp [World.setCell]
theorem one_str (t : ByteArray) : ∀ u ∈ [Value.string t], u.oneCell' = true := by intro u hu; rw [List.mem_singleton.1 hu]; rfl
theorem one_slc (a : Option Addr) (n c : Nat) : ∀ u ∈ [Value.slice a n c], u.oneCell' = true := by intro u hu; rw [List.mem_singleton.1 hu]; rfl
theorem at_app (i : Nat) {P : Program} {ops : Array Oper} {rest : List Oper} {Q : Exit → Act → World → Prop} {a : Act} {w : World} {y : Operand} {ts : Array TypeId} {d : Option Tmp} {t : TypeId} {pos : String} {af : Array Edge} {g : Option (Nat × Bool)}
    (h : wpList P ops Q ({ dst := d, op := .call { callee := .builtin .append, args := #[.tmp i, y], argTypes := ts }, type := t, pos := pos, after := af, guard := g } :: rest) a w) : wpList P ops Q ({ dst := d, op := .call { callee := .builtin .append, args := #[.tmp i, y], argTypes := ts }, type := t, pos := pos, after := af, guard := g } :: rest) a w := h
theorem fill_step (x : Value) (ls : List Value) (i : Nat) (h : i < ls.length) : (List.replicate i x ++ ls.drop i).set i x = List.replicate (i + 1) x ++ ls.drop (i + 1) := by
  rw [List.set_append_right _ _ (by rw [List.length_replicate]; omega), List.length_replicate, Nat.sub_self, List.drop_eq_getElem_cons h, List.set_cons_zero, List.replicate_succ', List.append_assoc]
  rfl

set_option maxRecDepth 100000 in
set_option maxHeartbeats 1600000 in
theorem strings_any (B G : Nat) (b : Bk) (w0 w : World) (recs : List (Value × ByteArray)) (lv : Value) (nl : Nat) (ls : List Value) (S : StI B w0 w G b (recs.map (·.1)) (recs.map (·.2)) recs lv nl ls)
    (hb : b.n ≤ 1000) (hnl : nl ≤ 1000) (hrl : recs.length ≤ 1000) (hnew : ∀ r ∈ recs, ∀ g, lv.ownBlock = some g → r.1.ownBlock ≠ some g) :
    Calls Try.prog 20 #[.pointer (some ⟨G, 0, none⟩), lv] w fun e w' => ∃ b' recs', BkI B w0 w' G b' recs' ∧ b'.n = b.n + 1 ∧ recs'.length = recs.length + 4 ∧ b'.dv = b.dv ∧ b'.kv = b.kv ∧ b'.pv = b.pv ∧ e = .returned (.tuple #[]) := by
  have hmk := mark_any G b w S.bk hb
  have hls0 : ls.length = nl := by have := S.hl.1; omega
  obtain ⟨iS, hiS, hzS0, hzS1, hzS2⟩ := info_parts info_strs
  obtain ⟨i0, hi0, hz0, hz1, hz2⟩ := info_parts info_str
  have HS := hide S
  clear S
  obtain ⟨ao, cap, rfl⟩ := own_shape (unhide HS).hl
  go_enter Try.func20, Try.ntmps20
  go_wp2_with fail
  refine hmk.mono ?_
  rintro e w1 ⟨l32, hl32, rfl, hB1, hg1⟩
  have S1 := (unhide HS).count hg1 hB1
  have K1 := hide (show (Try.prog.info? 58).map (·.size) = some (bcells l32).toArray.size by rw [bcells_size2, hl32]; exact info_a32)
  have K2 := hide (show z32k.size = (bcells l32).toArray.size by rw [bcells_size2, hl32]; rfl)
  have K3 := hide (bcells_one2 l32)
  have S2 := S1.later (put_grown w1 (.cells z32k 58) (bcells l32).toArray)
  have hrow : ((w1.alloc (.cells z32k 58)).setRow w1.heap.size (bcells l32).toArray).heap[w1.heap.size]? = some (.cells (bcells l32).toArray 58 (0, 0)) := setRow_heap _ _ _ _ _ _ (heap_alloc_new w1 _)
  have hconv : Sem.run Try.prog (convert 69 9 (.slice (some ⟨w1.heap.size, 0, none⟩) 32 32)) ((w1.alloc (.cells z32k 58)).setRow w1.heap.size (bcells l32).toArray) = .ok (.string ⟨l32.toArray⟩) ((w1.alloc (.cells z32k 58)).setRow w1.heap.size (bcells l32).toArray) := by
    have h := run_convert_bytes_back (P := Try.prog) ((w1.alloc (.cells z32k 58)).setRow w1.heap.size (bcells l32).toArray) 69 9 5 ⟨w1.heap.size, 0, none⟩ 32 l32 Try.underlying69 Try.underlying5 Try.underlying9 (fun j hj => by
      rw [Addr.add_lit, Nat.zero_add, cell_of_row _ _ j _ _ _ hrow, List.getElem?_toArray]
      exact bcells_at2 l32 j hj)
    rwa [hl32] at h
  generalize (ByteArray.mk l32.toArray) = t at hconv
  rw [z32k_cells] at hconv
  have HS2 := hide S2
  clear hrow hB1 hg1 S1 S2 HS hmk
  go_wp2_with (((with_reducible refine at_store ?_); refine wpList_store_row rfl 58 _ _ rfl w1.heap.size (bcells l32).toArray rfl rfl 58 _ (heap_alloc_new w1 _) (unhide K1) (unhide K2) (unhide K3) ?_))
  rw [← z32k_cells]
  generalize ((w1.alloc (.cells z32k 58)).setRow w1.heap.size (bcells l32).toArray) = W2 at HS2 ⊢
  clear hconv K1 K2 K3
  go_loopw [6] (fun v wr => ∃ i : Nat, i ≤ nl ∧ v = .int .i64 i ∧ StI B w0 wr G { b with n := b.n + 1 } (recs.map (·.1)) (recs.map (·.2)) recs (.slice ao nl cap) nl (List.replicate i (.string t) ++ ls.drop i)) (fun v _ => nl - (intOf v).toNat)
  case atStart => exact ⟨0, Nat.zero_le _, rfl, unhide HS2⟩
  case round =>
    clear HS2
    obtain ⟨i, hi, rfl, S⟩ := hrel
    have HS := hide S
    by_cases hlt : i < nl
    · have hd : decide ((i : Int) < (nl : Int)) = true := by simp; omega
      have j1 : (i : Int) < (nl : Int) := by omega
      obtain ⟨g, hao⟩ : ∃ g, ao = some ⟨g, 0, none⟩ := by
        rcases S.hl.2 with ⟨h, h0⟩ | ⟨g, cap', cur, h, _⟩
        · omega
        · injection h with h _ _; exact ⟨g, h⟩
      subst hao
      have hrow := S.hl
      obtain ⟨cur, hcur, hcs⟩ : ∃ cur, wr.heap[g]? = some (.cells cur 9 (0, 0)) ∧ nl ≤ cur.size := by
        rcases S.hl.2 with ⟨h, h0⟩ | ⟨g', cap', cur, h, _, h2, h3, _, h5, _⟩
        · omega
        · injection h with h _ _
          injection h with h
          injection h with h
          subst h
          exact ⟨cur, h2, by omega⟩
      have ci : wr.cell? ⟨g, i, none⟩ = some (cur[i]'(by omega)) := by
        rw [cell_of_row wr g i _ _ _ hcur, Array.getElem?_eq_getElem (by omega)]
      have fi : wr.frozen? ⟨g, i, none⟩ = false := frozen_of_row wr g i _ _ hcur
      generalize cur[i]'(by omega) = old at ci
      clear hcur hrow S
      have HNEW := hide (show ∀ r ∈ recs, r.1.ownBlock ≠ some g from fun r hr => hnew r hr g rfl)
      go_wp2
      refine ⟨⟨i + 1, by omega, by go_num, ?_⟩, by simp [intOf]; omega⟩
      have := (unhide HS).put (i := i) (x := .string t) rfl (unhide HNEW)
      rw [fill_step _ _ _ (by rw [hls0]; omega)] at this
      exact this
    · have hd : decide ((i : Int) < (nl : Int)) = false := by simp; omega
      have S5 : StI B w0 wr G { b with n := b.n + 1 } (recs.map (·.1)) (recs.map (·.2)) recs (.slice ao nl cap) nl (List.replicate nl (.string t)) := by
        have h9 := S
        rw [show i = nl by omega, List.drop_eq_nil_of_le (by omega), List.append_nil] at h9
        exact h9
      have HS5 := hide S5
      clear S HS S5
      go_wp2
      go_loopw [1, 7] (fun lv tk wr => ∃ (k : Nat) (b' : Bk) (recs' : List (Value × ByteArray)), k ≤ 4 ∧ tk = .int .i64 k ∧ recs'.length = recs.length + k ∧ b'.n = b.n + 1 ∧ b'.dv = b.dv ∧ b'.kv = b.kv ∧ b'.pv = b.pv ∧ StI B w0 wr G b' (recs'.map (·.1)) (recs'.map (·.2)) recs' lv (nl + k) (List.replicate (nl + k) (.string t))) (fun _ tk _ => 4 - (intOf tk).toNat)
      case atStart => exact ⟨0, { b with n := b.n + 1 }, recs, by omega, rfl, rfl, rfl, rfl, rfl, rfl, unhide HS5⟩
      case round =>
        clear HS5
        obtain ⟨k, b', recs', hk, rfl, hrl', hn', hdv, hkv, hpv, S⟩ := hrel
        have HN := hide hn'
        have HDV := hide hdv
        have HKV := hide hkv
        have HPV := hide hpv
        clear hn' hdv hkv hpv
        obtain ⟨al, cl, rfl⟩ := own_shape S.hl
        by_cases hlt4 : k < 4
        · have hd4 : decide ((k : Int) < 4) = true := by simp; omega
          have c1 := S.bk.c1
          have hN1 : (recs'.map (·.1)).length = recs.length + k := by rw [List.length_map]; exact hrl'
          have hN2 : (recs'.map (·.2)).length = recs.length + k := by rw [List.length_map]; exact hrl'
          have hB := S.sz
          have hbG := S.bk.lt
          have hxl := S.hx.lt
          have HRL := hide hrl'
          have HT1 := hide (show ∀ (y : Value) (z : ByteArray), (recs' ++ [(y, z)]).map (fun r : Value × ByteArray => r.1) = recs'.map (fun r : Value × ByteArray => r.1) ++ [y] from fun y z => by simp)
          have HT2 := hide (show ∀ (y : Value) (z : ByteArray), (recs' ++ [(y, z)]).map (fun r : Value × ByteArray => r.2) = recs'.map (fun r : Value × ByteArray => r.2) ++ [z] from fun y z => by simp)
          have q1 : (recs'.map (·.1)).length + 1 ≤ maxLen := by unfold maxLen; omega
          have q2 : ((recs'.map (·.1)).length + 1) * 24 ≤ 140737488355328 := by omega
          have q3 : (recs'.map (·.2)).length + 1 ≤ maxLen := by unfold maxLen; omega
          have q4 : ((recs'.map (·.2)).length + 1) * 16 ≤ 140737488355328 := by omega
          have q5 : nl + k + 1 ≤ maxLen := by unfold maxLen; omega
          have q6 : (nl + k + 1) * 16 ≤ 140737488355328 := by omega
          generalize recs'.map (·.1) = tl at S q1 q2 HT1
          generalize recs'.map (·.2) = xl at S q3 q4 HT2
          have HS := hide S
          clear S hN1 hN2 hrl'
          go_wp2_with (at_builtin; first
            | ((with_reducible refine at_app 30 ?_); refine wpList_append_keeps _ rfl (.tmp 30) (.tmp 32) 24 rfl B 22 iS (.slice none 0 0) 1 24 Try.underlying24 hiS hzS0 hzS1 hzS2 rfl (by decide) _ _ _ rfl ((unhide HS).ht.alloc _) ⟨wr.heap.size, 0, none⟩ 1 1 [.slice al (nl + k) cl] rfl rfl (one_new _ _ _ _ rfl) (one_slc _ _ _) (by decide) q1 q2 (by simp; omega) ?_; intro ga ca wa hownA hgrowA hatA _ _; have hsA := hgrowA.size; have hBa := (unhide HS).bk.same ((grown_trans (World.grownBy_alloc wr _ _) hgrowA).block G hbG (fun e => (unhide HS).tG e.symm)); have c1a := hBa.c1; have c2a := hBa.c2; have f1a := hBa.free 1; have SA := hide ((unhide HS).texts hownA hgrowA hatA); clear hBa hownA hgrowA hatA)
            | ((with_reducible refine at_app 40 ?_); refine wpList_append_keeps _ rfl (.tmp 40) (.tmp 42) 22 rfl B 9 i0 (.string ⟨#[]⟩) 1 16 Try.underlying22 hi0 hz0 hz1 hz2 rfl (by decide) _ _ _ rfl ((unhide SA).hx.alloc _) ⟨wa.heap.size, 0, none⟩ 1 1 [.string t] rfl rfl (one_new _ _ _ _ (size_set _ _ _)) (one_str _) (by decide) q3 q4 (Nat.le_of_lt (Nat.lt_of_le_of_lt (unhide SA).sz (by simp))) ?_; intro gx cx wx hownX hgrowX hatX _ _; have hBx := (unhide SA).bk.same ((grown_trans (World.grownBy_alloc _ _ _) hgrowX).block G (unhide SA).bk.lt (fun e => (unhide SA).xG e.symm)); have c2x := hBx.c2; have f2x := hBx.free 2; have SX := hide ((unhide SA).text rfl hownX hgrowX hatX); clear hBx hownX hgrowX hatX)
            | ((with_reducible refine at_app 46 ?_); refine wpList_append_keeps _ rfl (.tmp 46) (.tmp 48) 22 rfl B 9 i0 (.string ⟨#[]⟩) 1 16 Try.underlying22 hi0 hz0 hz1 hz2 rfl (by decide) _ _ _ rfl ((unhide SX).hl.alloc _) ⟨wx.heap.size, 0, none⟩ 1 1 [.string t] rfl rfl (one_new _ _ _ _ (size_set _ _ _)) (one_str _) (by decide) q5 q6 (Nat.le_of_lt (Nat.lt_of_le_of_lt (unhide SX).sz (by simp))) ?_; intro gl cll wl hownL hgrowL hatL _ hkeepL; have SL := hide ((unhide SX).grow hownL hgrowL hatL hkeepL); clear hownL hgrowL hatL hkeepL))
          refine ⟨⟨k + 1, { b' with tv := .slice (some ⟨ga, 0, none⟩) (tl.length + 1) ca, xv := .slice (some ⟨gx, 0, none⟩) (xl.length + 1) cx }, recs' ++ [(.slice al (nl + k) cl, t)], by omega, by go_num, by rw [List.length_append, unhide HRL]; rfl, unhide HN, unhide HDV, unhide HKV, unhide HPV, ?_⟩, by simp [intOf]; omega⟩
          have hSL := unhide SL
          rw [← unhide HT1 (.slice al (nl + k) cl) t, ← unhide HT2 (.slice al (nl + k) cl) t, ← List.replicate_succ'] at hSL
          exact hSL
        · have hd4 : decide ((k : Int) < 4) = false := by simp; omega
          have hk4 : k = 4 := by omega
          have HS := hide S.drop
          clear S
          rw [hk4] at hrl'
          have HRL := hide hrl'
          clear hrl' hk4
          go_wp2
          exact bodyPost_end (results_none Try.results20 _ _ _) rfl ⟨b', recs', unhide HS, unhide HN, unhide HRL, unhide HDV, unhide HKV, unhide HPV, rfl⟩
end Go.Proofs.Ytanfolfopalbeaa
