/- chain.LastLink, chain.Prove, ferry.OldProve, chain.Verify, ferry.OldVerify: the contracts. -/
import Derived.Test.YtanfolfopalbeabDoorRead
import Derived.Test.YtanfolfopalbeabDoorProofMath
import Derived.Laws.CopyOwn
import Derived.OwnWalk
import Derived.WalkLawsBesides
namespace Go.Proofs.YtanfolfopalbeabDoor
open Go.RowKit

set_option maxRecDepth 100000 in
set_option maxHeartbeats 400000 in
theorem lastLink_empty (v0 : Nat) (ao : Option Addr) (cap : Nat) (w : World) :
    Calls Tryd.prog 59 #[.int .u16 v0, .slice ao 0 cap] w fun e w' => e = .returned (.int .u16 v0) ∧ w' = w := by
  go_enter Tryd.func59, Tryd.ntmps59
  go_wp2
  refine wp_loop_rounds 1 ?_
  rw [rounds_succ]
  go_wp2
  go_ret
  exact ⟨rfl, rfl⟩

set_option maxRecDepth 100000 in
set_option maxHeartbeats 400000 in
theorem lastLink_some (v0 b off cap : Nat) (ss : List ByteArray) (w : World) (hv0 : v0 < 65536) (hm : ss.length ≤ maxLen) (hz : ∀ i, i < ss.length → (ss.getD i ByteArray.empty).size ≤ 140737488351232)
    (hc : ∀ i, i < ss.length → w.cell? ⟨b, off + i, none⟩ = some (.string (ss.getD i ByteArray.empty))) :
    Calls Tryd.prog 59 #[.int .u16 v0, .slice (some ⟨b, off, none⟩) ss.length cap] w fun e w' => e = .returned (.int .u16 (last v0 (bs ss))) ∧ Below w.heap.size w w' := by
  unfold maxLen at hm
  have HC := hide hc
  have HZ := hide hz
  clear hc hz
  go_enter Tryd.func59, Tryd.ntmps59
  go_wp2
  go_loopw [5, 11] (fun f i wr => ∃ k : Nat, k ≤ ss.length ∧ i = .int .i64 k ∧ f = .int .u16 (last v0 (bs (ss.take k))) ∧ Below w.heap.size w wr) (fun _ i _ => ss.length - (intOf i).toNat)
  case atStart => exact ⟨0, Nat.zero_le _, rfl, rfl, Below.refl _ _⟩
  case round =>
    obtain ⟨k, hk, rfl, rfl, hbel⟩ := hrel
    by_cases hlt : k < ss.length
    · obtain ⟨s, hs⟩ : ∃ s, s = ss.getD k ByteArray.empty := ⟨_, rfl⟩
      have hck0 := unhide HC k hlt
      have hss := unhide HZ k hlt
      rw [← hs] at hck0 hss
      have HB := hide (bs_take_succ ss k hlt)
      have HL := hide (last_snoc (bs (ss.take k)) s.data.toList v0)
      have HS := hide hs
      clear hs
      have hv := last_lt (bs (ss.take k)) v0 hv0
      generalize last v0 (bs (ss.take k)) = v at *
      have hck : wr.cell? ⟨b, off + k, none⟩ = some (.string s) := by rw [hbel.cell (p := ⟨b, off + k, none⟩) (cell_lt hck0)]; exact hck0
      clear hck0
      go_wp2_with fail
      refine (link_any v s _ hv hss).mono ?_
      rintro e w1 ⟨rfl, hb1⟩
      have hbel1 := hbel.trans (hb1.mono hbel.size)
      clear hck hb1 hbel
      go_wp2
      go_roundw
      case rel =>
        refine ⟨k + 1, by omega, by go_num, ?_, hbel1⟩
        rw [unhide HB, ← unhide HS, unhide HL]
      case measure => simp [intOf]; omega
    · have hke : ss.take k = ss := List.take_of_length_le (by omega)
      rw [hke]
      clear hke
      go_wp2
      go_ret
      exact ⟨rfl, hbel⟩
theorem lastLink_any (v0 : Nat) (v : Value) (ss : List ByteArray) (w : World) (h : Strs w v ss) (hv0 : v0 < 65536) (hz : ∀ i, i < ss.length → (ss.getD i ByteArray.empty).size ≤ 140737488351232) :
    Calls Tryd.prog 59 #[.int .u16 v0, v] w fun e w' => e = .returned (.int .u16 (last v0 (bs ss))) ∧ Below w.heap.size w w' := by
  obtain ⟨ao, cap, rfl, h1, h2, h3⟩ := h
  rcases h3 with rfl | ⟨b, off, rfl, hc⟩
  · refine (lastLink_empty v0 ao cap w).mono ?_
    rintro e w' ⟨rfl, rfl⟩
    exact ⟨rfl, Below.refl _ _⟩
  · exact lastLink_some v0 b off cap ss w hv0 (Nat.le_trans h1 h2) hz hc

/-- What OldVerify answers. -/
def ovR (head : Nat) (n i : Int) (entry : ByteArray) (before : Nat) (rest : List ByteArray) : Bool :=
  if i < 0 ∨ n ≤ i ∨ (rest.length : Int) ≠ n - 1 - i then false else decide (last (lnk before entry.data.toList) (bs rest) = head)

set_option maxRecDepth 100000 in
set_option maxHeartbeats 800000 in
theorem cverify_any (head before : Nat) (n i : Int) (entry : ByteArray) (v : Value) (rest : List ByteArray) (w : World) (hbf : before < 65536) (hn : -9223372036854775808 ≤ n ∧ n ≤ 9223372036854775807) (hi : -9223372036854775808 ≤ i ∧ i ≤ 9223372036854775807)
    (he : entry.size ≤ 140737488351232) (h : Strs w v rest) (hz : ∀ i, i < rest.length → (rest.getD i ByteArray.empty).size ≤ 140737488351232) :
    Calls Tryd.prog 36 #[.int .u16 head, .int .i64 n, .int .i64 i, .string entry, .agg #[.int .u16 before, v]] w fun e w' => e = .returned (.bool (ovR head n i entry before rest)) ∧ Below w.heap.size w w' := by
  have hb0 : Below w.heap.size w (w.alloc (.cells #[.int .u16 (before : Int), v] 51)) := (Below.refl _ _).alloc (Nat.le_refl _) _
  have HS := hide (h.below hb0 (Nat.le_refl _))
  have HZ := hide hz
  have HB0 := hide hb0
  obtain ⟨ao, cap, rfl, hl1, hl2, _⟩ := h
  unfold maxLen at hl2
  clear hz hb0
  by_cases h1 : i < 0
  · have HP := hide (show ovR head n i entry before rest = false by unfold ovR; rw [if_pos (.inl h1)])
    rw [unhide HP]
    have hd : decide (i < 0) = true := by simp; omega
    go_enter Tryd.func36, Tryd.ntmps36
    go_wp2
    go_ret
    exact ⟨rfl, unhide HB0⟩
  have hd : decide (i < 0) = false := by simp; omega
  by_cases h2 : n ≤ i
  · have HP := hide (show ovR head n i entry before rest = false by unfold ovR; rw [if_pos (.inr (.inl h2))])
    rw [unhide HP]
    have hd2 : decide (n ≤ i) = true := by simp; omega
    go_enter Tryd.func36, Tryd.ntmps36
    go_wp2
    go_ret
    exact ⟨rfl, unhide HB0⟩
  have hd2 : decide (n ≤ i) = false := by simp; omega
  by_cases h3 : (rest.length : Int) = n - 1 - i
  · have HP := hide (show ovR head n i entry before rest = decide (last (lnk before entry.data.toList) (bs rest) = head) by unfold ovR; rw [if_neg (by omega)])
    rw [unhide HP]
    have hd3 : ((rest.length : Int) != n - 1 - i) = false := by rw [bne_eq_false_iff_eq]; exact h3
    have hlk := fun wq => link_any before entry wq hbf he
    have hlt := lnk_lt before entry.data.toList
    generalize lnk before entry.data.toList = l1 at hlk hlt HP ⊢
    have hll := fun wq hs => lastLink_any l1 (.slice ao rest.length cap) rest wq hs hlt (unhide HZ)
    generalize last l1 (bs rest) = l2 at hll HP ⊢
    have hde : ((l2 : Int) == (head : Int)) = decide (l2 = head) := by
      by_cases hq : l2 = head
      · subst hq; simp
      · rw [decide_eq_false hq, beq_eq_false_iff_ne]; omega
    go_enter Tryd.func36, Tryd.ntmps36
    go_wp2_with fail
    refine (hlk _).mono ?_
    rintro e w1 ⟨rfl, hb1⟩
    have hbel1 := (unhide HB0).trans (hb1.mono (unhide HB0).size)
    have c1 : w1.cell? ⟨w.heap.size, 1, none⟩ = some (.slice ao rest.length cap) := by
      rw [hb1.cell (p := ⟨w.heap.size, 1, none⟩) (by simp)]
      simp
    have S1 := hide ((unhide HS).below hb1 (Nat.le_refl _))
    clear hb1 HS
    go_wp2_with fail
    refine (hll _ (unhide S1)).mono ?_
    rintro e w2 ⟨rfl, hb2⟩
    have hbel2 := hbel1.trans (hb2.mono hbel1.size)
    go_wp2
    go_ret
    exact ⟨rfl, hbel2⟩
  · have HP := hide (show ovR head n i entry before rest = false by unfold ovR; rw [if_pos (.inr (.inr h3))])
    rw [unhide HP]
    have hd3 : ((rest.length : Int) != n - 1 - i) = true := by rw [bne_iff_ne]; exact h3
    go_enter Tryd.func36, Tryd.ntmps36
    go_wp2
    go_ret
    exact ⟨rfl, unhide HB0⟩

set_option maxRecDepth 100000 in
set_option maxHeartbeats 400000 in
theorem OldVerify_any (head before : Nat) (n i : Int) (entry : ByteArray) (v : Value) (rest : List ByteArray) (w : World) (hbf : before < 65536) (hn : -9223372036854775808 ≤ n ∧ n ≤ 9223372036854775807) (hi : -9223372036854775808 ≤ i ∧ i ≤ 9223372036854775807)
    (he : entry.size ≤ 140737488351232) (h : Strs w v rest) (hz : ∀ i, i < rest.length → (rest.getD i ByteArray.empty).size ≤ 140737488351232) :
    Calls Tryd.prog 14 #[.int .u16 head, .int .i64 n, .int .i64 i, .string entry, .agg #[.int .u16 before, v]] w fun e w' => e = .returned (.bool (ovR head n i entry before rest)) ∧ Below w.heap.size w w' := by
  have hb0 : Below w.heap.size w (w.alloc (.cells #[.int .u16 (before : Int), v] 51)) := (Below.refl _ _).alloc (Nat.le_refl _) _
  have HS := hide (h.below hb0 (Nat.le_refl _))
  have HB0 := hide hb0
  have hcv := fun wq hs => cverify_any head before n i entry v rest wq hbf hn hi he hs hz
  generalize ovR head n i entry before rest = b at hcv ⊢
  clear h hz hb0
  go_enter Tryd.func14, Tryd.ntmps14
  go_wp2_with fail
  refine (hcv _ ?_).mono ?_
  · first | exact unhide HS | skip
  rintro e w1 ⟨rfl, hb1⟩
  go_wp2
  go_ret
  exact ⟨rfl, (unhide HB0).trans (hb1.mono (unhide HB0).size)⟩

/-- What OldProve answers. -/
def opR (ss : List ByteArray) (i : Int) : Nat × List ByteArray × Nat :=
  if chkI ss i ≠ 0 then (0, [], chkI ss i) else (last 0 (bs (ss.take i.toNat)), ss.drop (i.toNat + 1), 0)
theorem info_opf : (Tryd.prog.info? 51).map (·.size) = some 2 := by kernel_rfl
theorem info_str1 : (Tryd.prog.info? 9).map (·.size) = some 1 := by kernel_rfl
theorem info_strO : (Tryd.prog.info? 9).map (fun i => (i.zero, i.size, i.bytes)) = some (some (.string ⟨#[]⟩), 1, 16) := by kernel_rfl
theorem Strs.cutF {w : World} {b off cap n : Nat} {ss : List ByteArray} (h : Strs w (.slice (some ⟨b, off, none⟩) n cap) ss) (k : Nat) (hk : k ≤ n) : Strs w (.slice (some ⟨b, off, none⟩) k cap) (ss.take k) := by
  obtain ⟨ao, cap', he, h1, h2, h3⟩ := h
  simp only [Value.slice.injEq] at he
  obtain ⟨rfl, rfl, rfl⟩ := he
  have hl : (ss.take k).length = k := by rw [List.length_take]; omega
  refine ⟨some ⟨b, off, none⟩, cap, by rw [hl], by omega, h2, ?_⟩
  rcases h3 with rfl | ⟨b', off', he, hc⟩
  · simp
  · simp only [Option.some.injEq, Addr.mk.injEq, and_true] at he
    obtain ⟨rfl, rfl⟩ := he
    refine .inr ⟨b, off, rfl, fun i hi => ?_⟩
    rw [hc i (by omega)]
    simp only [List.getD]
    rw [List.getElem?_take_of_lt (by omega)]
theorem chkI_zero {ss : List ByteArray} {i : Int} (h : chkI ss i = 0) : chk ss = 0 ∧ 0 ≤ i ∧ i < ss.length := by
  unfold chkI at h
  by_cases h0 : chk ss = 0
  · refine ⟨h0, ?_⟩
    rw [if_neg (by omega)] at h
    by_cases hb : i < 0 ∨ (ss.length : Int) ≤ i
    · rw [if_pos hb] at h; omega
    · omega
  · rw [if_pos h0] at h; exact absurd h h0
theorem chkI_le (ss : List ByteArray) (i : Int) : chkI ss i ≤ 5 := by
  have h2 : chk ss ≤ 2 := by
    unfold chk
    split
    · omega
    · split <;> omega
  unfold chkI
  split
  · omega
  · split <;> omega
theorem results_opf {P : Program} {fn : Func} {p u : Tmp} {ty : TypeId} (h : fn.results = #[.cell p ty, .tmp u]) (tmps : Array Value) (w : World) (g : Nat) (t : TypeId) (cs : Array Value) (fr : Nat × Nat) (d : TypeDesc)
    (hp : tmps.getD p undef = .pointer (some ⟨g, 0, none⟩)) (hg : w.heap[g]? = some (.cells cs t fr))
    (hu : P.underlying ty = some d) (hd : (match d with | .struct _ | .array _ _ => true | _ => false) = true) (hi : (P.info? ty).map (·.size) = some cs.size) :
    (results fn tmps).run P w = .ok (.tuple #[.agg cs, tmps.getD u undef]) w := by
  have hp' : tmps[p]?.getD undef = .pointer (some ⟨g, 0, none⟩) := by simpa using hp
  simp [results, h, hp', asAddr, run_loadVar_row w g t ty cs fr d hg hu hd hi]
/-- Is the next operation a copy? (to be met by 'with_reducible refine') -/
theorem at_copyO {P : Program} {ops : Array Oper} {rest : List Oper} {Q : Exit → Act → World → Prop} {a : Act} {w : World} {ar : Array Operand} {ts : Array TypeId} {d : Option Tmp} {t : TypeId} {pos : String} {af : Array Edge} {g : Option (Nat × Bool)}
    (h : wpList P ops Q ({ dst := d, op := .call { callee := .builtin .copy, args := ar, argTypes := ts }, type := t, pos := pos, after := af, guard := g } :: rest) a w) : wpList P ops Q ({ dst := d, op := .call { callee := .builtin .copy, args := ar, argTypes := ts }, type := t, pos := pos, after := af, guard := g } :: rest) a w := h
theorem below_rowO {B : Nat} {a w : World} (h : Below B a w) {g : Nat} (hg : B ≤ g) (cs : Array Value) : Below B a (w.setRow g cs) :=
  ⟨h.os, h.tape, h.output, by simp [World.setRow]; exact h.size, fun k hk => (setRow_other w g k cs (by omega)).trans (h.block k hk)⟩
theorem opf_one (l : Int) (ao : Option Addr) (n c : Nat) : (#[Value.int .u16 l, .slice ao n c] : Array Value).all (·.oneCell') = true := by simp [Value.oneCell']
theorem drop_size {ss : List ByteArray} {k m : Nat} (h : ∀ i, i < ss.length → (ss.getD i ByteArray.empty).size ≤ m) : ∀ i, i < (ss.drop k).length → ((ss.drop k).getD i ByteArray.empty).size ≤ m := by
  intro i hi
  rw [List.length_drop] at hi
  have := h (k + i) (by omega)
  rw [List.getD_eq_getElem?_getD] at this ⊢
  rw [List.getElem?_drop]
  exact this
theorem take_size {ss : List ByteArray} {k m : Nat} (h : ∀ i, i < ss.length → (ss.getD i ByteArray.empty).size ≤ m) : ∀ i, i < (ss.take k).length → ((ss.take k).getD i ByteArray.empty).size ≤ m := by
  intro i hi
  rw [List.length_take] at hi
  simp only [List.getD]
  rw [List.getElem?_take_of_lt (by omega)]
  exact h i (by omega)
theorem chk_fits {ss : List ByteArray} (h : chk ss = 0) : ss.length ≤ 100 ∧ ∀ i, i < ss.length → (ss.getD i ByteArray.empty).size ≤ 20 := by
  unfold chk at h
  by_cases h1 : 100 < ss.length
  · rw [if_pos h1] at h; omega
  · rw [if_neg h1] at h
    refine ⟨by omega, fun i hi => ?_⟩
    by_cases h2 : ss.any (fun s => decide (20 < s.size)) = true
    · rw [if_pos h2] at h; omega
    · simp only [List.any_eq_true, not_exists, not_and, decide_eq_true_eq] at h2
      have := h2 ss[i] (List.getElem_mem hi)
      rw [List.getD_eq_getElem?_getD, List.getElem?_eq_getElem hi, Option.getD_some]
      omega

set_option maxRecDepth 100000 in
set_option maxHeartbeats 800000 in
theorem cprove_any (v : Value) (ss : List ByteArray) (i : Int) (w : World) (hi : -9223372036854775808 ≤ i ∧ i ≤ 9223372036854775807) (h : Strs w v ss) :
    Calls Tryd.prog 34 #[v, .int .i64 i] w fun e w' => ∃ v', e = .returned (.tuple #[.agg #[.int .u16 (opR ss i).1, v'], .int .i64 (opR ss i).2.2]) ∧ w'.ownsRow w.heap.size 9 1 v' (opR ss i).2.1.length ((opR ss i).2.1.map Value.string) ∧ Below w.heap.size w w' := by
  have hb0 : Below w.heap.size w (w.alloc (.cells #[.int .u16 0, .slice none 0 0] 51)) := (Below.refl _ _).alloc (Nat.le_refl _) _
  have HS := hide (h.below hb0 (Nat.le_refl _))
  have HB0 := hide hb0
  have hck := fun wq hs => checkEntry_any v ss i wq hi hs
  have HS0 := hide h
  clear h hb0
  by_cases hc : chkI ss i = 0
  · obtain ⟨hc0, hi1, hi2⟩ := chkI_zero hc
    obtain ⟨j, rfl⟩ : ∃ j : Nat, i = (j : Int) := ⟨i.toNat, by omega⟩
    have hj : j < ss.length := by omega
    obtain ⟨hl100, hz20⟩ := chk_fits hc0
    have HP := hide (show opR ss j = (last 0 (bs (ss.take j)), ss.drop (j + 1), 0) by unfold opR; rw [if_neg (by omega), Int.toNat_natCast])
    rw [unhide HP]
    rw [hc] at hck
    have hdl : (ss.drop (j + 1)).length = ss.length - 1 - j := by rw [List.length_drop]; omega
    have htl : (ss.take j).length = j := by rw [List.length_take]; omega
    obtain ⟨ao, cap, rfl, hl1, hl2, h3⟩ := unhide HS
    rcases h3 with rfl | ⟨b, off, rfl, hcc⟩
    · cases hj
    unfold maxLen at hl2
    have hll := fun wq hs => lastLink_any 0 (.slice (some ⟨b, off, none⟩) j cap) (ss.take j) wq hs (by decide) (fun k hk => Nat.le_trans (take_size hz20 k hk) (by decide))
    generalize hLE : last 0 (bs (ss.take j)) = L at hll ⊢
    have HLE := hide hLE
    have HCC := hide hcc
    obtain ⟨i0, hinf, hz0, hz1, hz2⟩ := info_parts info_strO
    clear hLE hcc hc hc0 hz20 HP
    go_enter Tryd.func34, Tryd.ntmps34
    go_wp2_with fail
    refine (hck _ (unhide HS)).mono ?_
    rintro e w1 ⟨rfl, rfl⟩
    go_wp2_with (at_make; go_must (refine wpList_make_full _ rfl _ _ 23 rfl w.heap.size 9 i0 (.string ⟨#[]⟩) 1 Tryd.underlying23 hinf hz0 hz1 _ _ _ _ (ss.length - 1 - j) rfl rfl (by omega) (by omega) (by rw [hz2]; omega) (by unfold maxLen; omega) (by simp) ?_))
    intro w1 hown1 hgrow1
    have hbel1 : Below w.heap.size w w1 := (unhide HB0).grown hgrow1 (by simp) (fun k h => by cases h)
    have hb1 : Below (w.alloc (.cells #[.int .u16 0, .slice none 0 0] 51)).heap.size (w.alloc (.cells #[.int .u16 0, .slice none 0 0] 51)) w1 := (Below.refl _ _).grown hgrow1 (Nat.le_refl _) (fun k h => by cases h)
    have hsz0 : (w.alloc (.cells #[.int .u16 0, .slice none 0 0] 51)).heap.size = w.heap.size + 1 := by simp
    rw [hsz0] at hb1
    have V1 := hide (show w1.heap[w.heap.size]? = some (.cells #[.int .u16 0, .slice none 0 0] 51 (0, 0)) from (hb1.block _ (by omega)).trans (heap_alloc_new _ _))
    have S1 := hide ((unhide HS).below (hb1) (by rw [hsz0]; exact Nat.le_refl _))
    obtain ⟨hlm, h1⟩ := hown1
    rcases h1 with ⟨h1, _⟩ | ⟨g, cap1, cur, hv, hg1, hg2, hg3, hg4, hg5, hg6⟩
    · simp at h1
    simp only [Value.slice.injEq, Option.some.injEq, Addr.mk.injEq, and_true, true_and] at hv
    obtain ⟨hgB, hcap1⟩ := hv
    rw [← hcap1, Nat.mul_one] at hg5
    rw [← hgB] at hg2
    have hcl : cur.toList.length = ss.length - 1 - j := by rw [Array.length_toList]; exact hg5
    have HG : Hid (w1.heap[w.heap.size + 1]? = some (.cells cur.toList.toArray 9 (0, 0))) := hide (by rw [Array.toArray_toList]; exact hg2)
    have HSRC := hide (show 0 < ((ss.drop (j + 1)).map Value.string).length → some (⟨w.heap.size + 1, 0, none⟩ : Addr) = some ⟨w.heap.size + 1, 0, none⟩ ∧ ∃ ad, (if cap = j + 1 then some (⟨b, off, none⟩ : Addr) else some (⟨b, off + (j + 1), none⟩ : Addr)) = some ad ∧ ∀ q v, ((ss.drop (j + 1)).map Value.string)[q]? = some v → w1.cell? (ad.add q) = some v from fun hpos => ⟨rfl, ⟨b, off + (j + 1), none⟩, if_neg (by rw [List.length_map] at hpos; omega), fun q v hq => by
      have hql : q < (ss.drop (j + 1)).length := by
        have := (List.getElem?_eq_some_iff.1 hq).1
        simpa using this
      have hk : j + 1 + q < ss.length := by omega
      have h0 := unhide HCC (j + 1 + q) hk
      rw [Addr.add_lit, Nat.add_assoc, hb1.cell (p := ⟨b, off + (j + 1 + q), none⟩) (by have := cell_lt h0; rw [hsz0] at this; exact this), h0]
      rw [List.getElem?_map, List.getElem?_eq_getElem hql] at hq
      rw [List.getD_eq_getElem?_getD, List.getElem?_eq_getElem hk, Option.getD_some]
      simpa using hq⟩)
    have HCL := hide hcl
    have hf1 : ((j : Int) + 1) ≤ (ss.length : Int) := by omega
    have hRl : ((ss.drop (j + 1)).map Value.string).length = ss.length - 1 - j := by rw [List.length_map, hdl]
    have HR1 := hide (show ∀ u ∈ (ss.drop (j + 1)).map Value.string, u.oneCell' = true from fun u hu => by simp only [List.mem_map] at hu; obtain ⟨x, _, rfl⟩ := hu; rfl)
    generalize hRE : (ss.drop (j + 1)).map Value.string = R at HSRC hRl HR1
    have HRE := hide hRE
    clear hcl hg1 hg2 hg3 hg4 hg5 hg6 hlm hgB hcap1 hgrow1 hRE hdl
    go_wp2_with ((with_reducible refine at_copyO ?_); go_must (refine wpList_copy_splice rfl (.tmp 21) (.tmp 25) 23 23 rfl 9 Tryd.underlying23 info_str1 _ _ _ _ _ _ rfl rfl (w.heap.size + 1) 0 cur.toList 9 (unhide HG) R ?c1 (unhide HSRC) ?c2 (unhide HR1) (w.heap.size + 1) w1 (Below.refl _ _) (Nat.le_refl _) ?_))
    case c1 => rw [show ss.length - (j + 1) = ss.length - 1 - j by omega]; exact (Nat.min_self _).symm
    case c2 => have := unhide HCL; rw [Array.length_toList] at this; omega
    all_goals
      intro w2 HG2 hb2
      have hsp : splice cur.toList 0 R = R := by
        have h5 := unhide HCL
        rw [splice, List.take_zero, List.nil_append, Nat.zero_add, List.drop_of_length_le (by omega), List.append_nil]
      rw [hsp] at HG2
      have hbel2 : Below w.heap.size w w2 := hbel1.trans (hb2.mono (by omega))
      have hsz2 := hb2.size
      have hg2 := unhide HG2
      have hl2' : w.heap.size + 1 < w2.heap.size := lt_of_block hg2
      have V2 := (hb2.block _ (by omega)).trans (unhide V1)
      have S2 := hide (((unhide HS0).below hbel2 (Nat.le_refl _)).cutF j (by omega))
      clear hg2 HG HSRC S1 V1 HS hck
      go_wp2_with fail
      have hcall := hll w2 (unhide S2)
      rw [Int.natCast_zero] at hcall
      first | (rw [show cap = j + 1 by assumption] at hcall) | skip
      refine hcall.mono ?_
      rintro e w3 ⟨rfl, hb3⟩
      have hbel3 := hbel2.trans (hb3.mono hbel2.size)
      have V3 : w3.heap[w.heap.size]? = some (.cells #[.int .u16 0, .slice none 0 0] 51 (0, 0)) := (hb3.block _ (by omega)).trans V2
      have G3 := hide ((hb3.block _ hl2').trans (unhide HG2))
      clear V2 S2 hb3 HG2 hb2 hbel2 hbel1
      have V3' := hide V3
      clear V3
      go_wp2_with ((with_reducible refine at_store ?_); refine wpList_store_row rfl 51 _ _ rfl w.heap.size #[.int .u16 (L : Int), .slice (some ⟨w.heap.size + 1, 0, none⟩) (ss.length - 1 - j) (ss.length - 1 - j)] rfl rfl 51 _ (unhide V3') info_opf rfl (opf_one _ _ _ _) ?_)
      refine bodyPost_ret (v := .tuple #[.agg #[.int .u16 (L : Int), .slice (some ⟨w.heap.size + 1, 0, none⟩) (ss.length - 1 - j) (ss.length - 1 - j)], .int .i64 0]) ?_ rfl ⟨_, rfl, ?_, below_rowO hbel3 (Nat.le_refl _) _⟩
      · exact results_opf Tryd.results34 _ _ w.heap.size 51 _ (0, 0) _ rfl (setRow_heap _ _ _ _ _ _ (unhide V3')) Tryd.underlying51 rfl info_opf
      · have hdl : (ss.drop (j + 1)).length = ss.length - 1 - j := by rw [List.length_drop]; omega
        rw [hdl, unhide HRE]
        exact ⟨by omega, .inr ⟨w.heap.size + 1, ss.length - 1 - j, R.toArray, rfl, by omega, (setRow_other _ _ _ _ (by omega)).trans (unhide G3), Nat.le_refl _, by unfold maxLen; omega, by rw [List.size_toArray]; omega, by rw [List.toList_toArray, List.take_of_length_le (by omega)]⟩⟩
  · have hle := chkI_le ss i
    have HP := hide (show opR ss i = (0, [], chkI ss i) by unfold opR; rw [if_pos hc])
    rw [unhide HP]
    generalize chkI ss i = c at hc hle hck ⊢
    have hne : ((c : Int) != 0) = true := by rw [bne_iff_ne]; omega
    go_enter Tryd.func34, Tryd.ntmps34
    go_wp2_with fail
    refine (hck _ (unhide HS)).mono ?_
    rintro e w1 ⟨rfl, rfl⟩
    go_wp2
    refine bodyPost_ret (v := .tuple #[.agg #[.int .u16 0, .slice none 0 0], .int .i64 c]) ?_ rfl ⟨_, rfl, World.ownsRow_nil _ _ _ _, unhide HB0⟩
    exact results_opf Tryd.results34 _ _ w.heap.size 51 _ (0, 0) _ rfl (heap_alloc_new _ _) Tryd.underlying51 rfl info_opf

set_option maxRecDepth 100000 in
set_option maxHeartbeats 800000 in
theorem OldProve_any (v : Value) (ss : List ByteArray) (i : Int) (w : World) (hi : -9223372036854775808 ≤ i ∧ i ≤ 9223372036854775807) (h : Strs w v ss) :
    Calls Tryd.prog 12 #[v, .int .i64 i] w fun e w' => ∃ v', e = .returned (.tuple #[.agg #[.int .u16 (opR ss i).1, v'], .int .i64 (opR ss i).2.2]) ∧ w'.ownsRow w.heap.size 9 1 v' (opR ss i).2.1.length ((opR ss i).2.1.map Value.string) ∧ Below w.heap.size w w' := by
  have hb0 : Below w.heap.size w (w.alloc (.cells #[.int .u16 0, .slice none 0 0] 51)) := (Below.refl _ _).alloc (Nat.le_refl _) _
  have HS := hide (h.below hb0 (Nat.le_refl _))
  have HB0 := hide hb0
  have hpr := fun wq hs => cprove_any v ss i wq hi hs
  generalize opR ss i = r at hpr ⊢
  obtain ⟨b0, rs, c⟩ := r
  simp only at hpr ⊢
  clear h hb0
  go_enter Tryd.func12, Tryd.ntmps12
  go_wp2_with fail
  refine (hpr _ (unhide HS)).mono ?_
  rintro e w1 ⟨v1, rfl, hown, hb1⟩
  have hsz0 : (w.alloc (.cells #[.int .u16 0, .slice none 0 0] 51)).heap.size = w.heap.size + 1 := by simp
  rw [hsz0] at hown hb1
  have V1 := hide (show w1.heap[w.heap.size]? = some (.cells #[.int .u16 0, .slice none 0 0] 51 (0, 0)) from (hb1.block _ (by omega)).trans (heap_alloc_new _ _))
  have hbel1 := (unhide HB0).trans (hb1.mono (by omega))
  obtain ⟨ao, cp, rfl⟩ := own_shape hown
  have O1 := hide hown
  clear hown hb1
  go_wp2_with ((with_reducible refine at_store ?_); refine wpList_store_row rfl 51 _ _ rfl w.heap.size #[.int .u16 (b0 : Int), .slice ao rs.length cp] rfl rfl 51 _ (unhide V1) info_opf rfl (opf_one _ _ _ _) ?_)
  refine bodyPost_ret (v := .tuple #[.agg #[.int .u16 (b0 : Int), .slice ao rs.length cp], .int .i64 c]) ?_ rfl ⟨_, rfl, ?_, below_rowO hbel1 (Nat.le_refl _) _⟩
  · exact results_opf Tryd.results12 _ _ w.heap.size 51 _ (0, 0) _ rfl (setRow_heap _ _ _ _ _ _ (unhide V1)) Tryd.underlying51 rfl info_opf
  · obtain ⟨h1, h2⟩ := unhide O1
    refine ⟨h1, ?_⟩
    rcases h2 with h2 | ⟨g, cap, cur, h3, h4, h5, h6⟩
    · exact .inl h2
    · exact .inr ⟨g, cap, cur, h3, by omega, (setRow_other _ _ _ _ (by omega)).trans h5, h6⟩
end Go.Proofs.YtanfolfopalbeabDoor
