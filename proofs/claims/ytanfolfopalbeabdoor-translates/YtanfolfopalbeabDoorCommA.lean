/- Whatever the old log's text, the number, the entry, the link and the slice of texts: the call of ferrylaw.Translates returns true, and each argument reads afterwards as it read before. Conditions: the two package-level tables of the strong sum (startWords, roundWords) read as the program's own text lays them when the call begins; the card ties them to that text (that nothing else writes them is the translator's report, over the pruned copy of the project). What the two rows over the program's tables share: that a row's list gives the tables, and a world for the witness. A slice of strings among the arguments: what it reads as, how many there are, how long each is. lent, sameTexts, num: the contracts. The reference's Root and Prove: the contracts. The book's tree; Trees: the contracts. translate.collision: the contract. translate.Proof, ferry.Translate: the contracts. The reference's ReadOld: the contract. The reference's OldProve and OldVerify: the contracts. The reference's Translate: the contract. The book's translate; Translates: the contracts. -/
import Derived.Test.YtanfolfopalbeabDoorCards
import Derived.Test.YtanfolfopalbeabDoorTie
import Derived.Test.YtanfolfopalbeabDoorKeep
import Derived.ProofKit
import Derived.OpenShut
import Derived.Deep.DeepHandedRow
import Derived.Lib.LaidTab
import Derived.Stop.LaidErr
import Derived.Test.YtanfolfopalbeabDoorRows
import Derived.Test.YtanfolfopalbeabDoorStrs
import Derived.SliceStrings
import Derived.Carry
import Derived.SizedLaws
import Derived.ChangeMaps5
import Derived.Test.YtanfolfopalbeabDoorLendS
import Derived.BigQuiet
import Derived.Deep.QuietTactic
import Derived.Test.YtanfolfopalbeabDoorRefWay
import Derived.Test.YtanfolfopalbeabDoorRefMay
import Derived.Test.YtanfolfopalbeabDoorCommB
import Derived.Test.YtanfolfopalbeabDoorLendDig
import Derived.Test.YtanfolfopalbeabDoorOldPrv
import Derived.Test.YtanfolfopalbeabDoorTreeProve
import Derived.Test.YtanfolfopalbeabDoorRef
import Derived.Deep.RegionHeld3
namespace Go.Proofs.YtanfolfopalbeabDoor
open Go.ChangeShapes Go.WideShapes Go.ChangeAt Go.RowKit

theorem own : ownKnob Tryd.prog.godebug = none := by kernel_rfl
theorem gS : Tryd.prog.globalNamed "ferry/sums.startWords" = some 0 := by kernel_rfl
theorem gR : Tryd.prog.globalNamed "ferry/sums.roundWords" = some 1 := by kernel_rfl
theorem gSType : (Tryd.prog.globals[0]?).map (·.type) = some 132 := by kernel_rfl
theorem gRType : (Tryd.prog.globals[1]?).map (·.type) = some 139 := by kernel_rfl
theorem cellsW8 : Tryd.prog.cellsOf 132 = 8 := by kernel_rfl
theorem cellsW64 : Tryd.prog.cellsOf 139 = 64 := by kernel_rfl
theorem cellsU32 : Tryd.prog.cellsOf 109 = 1 := by kernel_rfl
theorem cellsStr : Tryd.prog.cellsOf 9 = 1 := by kernel_rfl
theorem laidOutP : laidOutB Tryd.prog = true := by kernel_rfl
def Hi : List Int := [1779033703, 3144134277, 1013904242, 2773480762, 1359893119, 2600822924, 528734635, 1541459225]
def Ki : List Int := [1116352408, 1899447441, 3049323471, 3921009573, 961987163, 1508970993, 2453635748, 2870763221, 3624381080, 310598401, 607225278, 1426881987, 1925078388, 2162078206, 2614888103, 3248222580, 3835390401, 4022224774, 264347078, 604807628, 770255983, 1249150122, 1555081692, 1996064986, 2554220882, 2821834349, 2952996808, 3210313671, 3336571891, 3584528711, 113926993, 338241895, 666307205, 773529912, 1294757372, 1396182291, 1695183700, 1986661051, 2177026350, 2456956037, 2730485921, 2820302411, 3259730800, 3345764771, 3516065817, 3600352804, 4094571909, 275423344, 430227734, 506948616, 659060556, 883997877, 958139571, 1322822218, 1537002063, 1747873779, 1955562222, 2024104815, 2227730452, 2361852424, 2428436474, 2756734187, 3204031479, 3329325298]
theorem Hi_at : ∀ t, t < 8 → Hi.getD t 0 = ((Hl.getD t 0 : Nat) : Int) := by decide
theorem Ki_at : ∀ t, t < 64 → Ki.getD t 0 = ((Kl.getD t 0 : Nat) : Int) := by decide

/-- What the row's list gives: the two tables lie in the world. -/
theorem tables {W : World} (h : laidMet Tryd.prog [("ferry/sums.startWords", Rows.laid_ferry_sums_startWords), ("ferry/sums.roundWords", Rows.laid_ferry_sums_roundWords)] W) : Tabs W := by
  have t0 : Lib.TabIs Tryd.prog W "ferry/sums.startWords" .u32 Hi := Lib.tabIs_of_head (rest := [("ferry/sums.roundWords", Rows.laid_ferry_sums_roundWords)]) gS gSType Tryd.underlying132 Tryd.underlying109 cellsU32 cellsW8 h
  have t1 : Lib.TabIs Tryd.prog W "ferry/sums.roundWords" .u32 Ki := Lib.tabIs_of_head (rest := []) gR gRType Tryd.underlying139 Tryd.underlying109 cellsU32 cellsW64 h.tail
  refine ⟨fun t ht => ?_, fun t ht => ?_, ?_⟩
  · rw [t0.cell gS t ht, Hi_at t ht]
  · rw [t1.cell gR t ht, Ki_at t ht]
  · have := cell_lt (t1.cell gR 0 (by decide))
    omega

def lay8 : Obj → Obj
  | .cells _ t frozen => .cells #[.int .u32 1779033703, .int .u32 3144134277, .int .u32 1013904242, .int .u32 2773480762, .int .u32 1359893119, .int .u32 2600822924, .int .u32 528734635, .int .u32 1541459225] t frozen
  | o => o
def lay64 : Obj → Obj
  | .cells _ t frozen => .cells #[.int .u32 1116352408, .int .u32 1899447441, .int .u32 3049323471, .int .u32 3921009573, .int .u32 961987163, .int .u32 1508970993, .int .u32 2453635748, .int .u32 2870763221, .int .u32 3624381080, .int .u32 310598401, .int .u32 607225278, .int .u32 1426881987, .int .u32 1925078388, .int .u32 2162078206, .int .u32 2614888103, .int .u32 3248222580, .int .u32 3835390401, .int .u32 4022224774, .int .u32 264347078, .int .u32 604807628, .int .u32 770255983, .int .u32 1249150122, .int .u32 1555081692, .int .u32 1996064986, .int .u32 2554220882, .int .u32 2821834349, .int .u32 2952996808, .int .u32 3210313671, .int .u32 3336571891, .int .u32 3584528711, .int .u32 113926993, .int .u32 338241895, .int .u32 666307205, .int .u32 773529912, .int .u32 1294757372, .int .u32 1396182291, .int .u32 1695183700, .int .u32 1986661051, .int .u32 2177026350, .int .u32 2456956037, .int .u32 2730485921, .int .u32 2820302411, .int .u32 3259730800, .int .u32 3345764771, .int .u32 3516065817, .int .u32 3600352804, .int .u32 4094571909, .int .u32 275423344, .int .u32 430227734, .int .u32 506948616, .int .u32 659060556, .int .u32 883997877, .int .u32 958139571, .int .u32 1322822218, .int .u32 1537002063, .int .u32 1747873779, .int .u32 1955562222, .int .u32 2024104815, .int .u32 2227730452, .int .u32 2361852424, .int .u32 2428436474, .int .u32 2756734187, .int .u32 3204031479, .int .u32 3329325298] t frozen
  | o => o
/-- A world for the witness: the settled one, the two tables as their initialisers lay them. -/
noncomputable def laidWorld (os : Os) : World :=
  { World.holding Tryd.prog os ⟨#[], #[], []⟩ with heap := ((World.holding Tryd.prog os ⟨#[], #[], []⟩).heap.modify 0 lay8).modify 1 lay64 }
end Go.Proofs.YtanfolfopalbeabDoor
namespace Go.Proofs.YtanfolfopalbeabDoor
open Go.ChangeShapes Go.WideShapes Go.ChangeAt Go.RowKit

theorem weightsAll_mem {H : Type} {P : Program} {e : TypeId} {d : DataW H} {n : Nat} (hn : n ∈ d.weights P e) : ∀ {l : List (DataW H)}, d ∈ l → n ∈ DataW.weightsAll P e l := by
  intro l
  induction l with
  | nil => intro h; cases h
  | cons a r ih =>
    intro h
    simp only [DataW.weightsAll, List.mem_append]
    rcases List.mem_cons.1 h with rfl | h
    · exact .inl hn
    · exact .inr (ih h)
set_option maxRecDepth 100000 in
theorem cellsStrZ : Tryd.prog.cellsOf 9 = 1 := by kernel_rfl
set_option maxRecDepth 100000 in
theorem bytesStrZ : Tryd.prog.bytesOf 9 = 16 := by kernel_rfl
set_option maxRecDepth 100000 in
theorem strs_of_argZ {H : Type} {enc : TypeId × Value → H} {W : World} {v : Value} {d : DataW H} {ps : List MemPlace} {base : Nat} (hval : Value.okWide Tryd.prog W .any base 23 v)
    (h : DataW.Trod enc Tryd.prog W 0 (fun _ => true) true 23 v d ps) {ts : List TypeId} {ds : List (DataW H)} (hsz : (DataW.weightsEach Tryd.prog ts ds).all (· ≤ reachBytes) = true) {j : Nat} (hj : ts[j]? = some 23) (hdj : ds[j]? = some d) :
    ∃ ss, Strs W v ss ∧ ss.length * 16 ≤ 140737488351232 ∧ ∀ i, i < ss.length → (ss.getD i ByteArray.empty).size ≤ 140737488351232 := by
  obtain ⟨a0, len, cap, rfl⟩ := okWide_slice Tryd.underlying23 hval
  obtain ⟨fuel, hf⟩ := h
  rcases open_strings Tryd.underlying23 Tryd.underlying9 cellsStrZ hf with ⟨hcs, hx⟩ | ⟨a, len', cap', ss, hcs, _, hl, hm, hz, hx, hcell, hws⟩
  · have e : Value.slice a0 len cap = .slice none 0 0 := by simpa [Value.cells] using hcs
    rw [e]
    exact ⟨[], ⟨none, 0, rfl, Nat.le_refl _, Nat.zero_le _, .inl rfl⟩, by simp, fun i hi => by cases hi⟩
  · have e : Value.slice a0 len cap = .slice (some a) len' cap' := by simpa [Value.cells] using hcs
    rw [e]
    simp only [if_true] at hz
    have hd : d = .slice (strs (ss.take len')) (strs (ss.drop len')) := congrArg Prod.fst hx
    have htl : (ss.take len').length = len' := by rw [List.length_take]; omega
    have hgd : ∀ i, i < len' → (ss.take len').getD i ByteArray.empty = ss.getD i ByteArray.empty := fun i hi => by
      simp only [List.getD]
      rw [List.getElem?_take_of_lt hi]
    have hmem := fun n hn => List.all_eq_true.1 hsz n (DataW.weights_mem_each hj hdj n hn)
    subst hd
    refine ⟨ss.take len', ⟨some a, cap', by rw [htl], by omega, hm, ?_⟩, ?_, fun i hi => ?_⟩
    · by_cases h0 : len' = 0
      · left
        rw [h0, List.take_zero]
      · right
        obtain ⟨b, off, spot⟩ := a
        have hspot : spot = none := by simpa [Addr.add] using World.cell?_spot (hcell 0 (by omega))
        subst hspot
        refine ⟨b, off, rfl, fun i hi => ?_⟩
        rw [htl] at hi
        rw [hgd i hi, ← add_plain]
        exact hcell i (by omega)
    · have := hmem (((strs (H := H) (ss.take len')).length + (strs (H := H) (ss.drop len')).length) * Tryd.prog.bytesOf 9) (by simp [DataW.weights, Tryd.underlying23])
      rw [bytesStrZ] at this
      simp only [strs, List.length_map, reachBytes, decide_eq_true_eq] at this
      omega
    · have hm2 : (.lit (.string (((ss.take len').getD i ByteArray.empty).data.toList)) : DataW H) ∈ strs (ss.take len') := by
        unfold strs
        refine List.mem_map.2 ⟨(ss.take len').getD i ByteArray.empty, ?_, rfl⟩
        rw [List.getD_eq_getElem?_getD, List.getElem?_eq_getElem hi, Option.getD_some]
        exact List.getElem_mem hi
      have := hmem ((ss.take len').getD i ByteArray.empty).data.toList.length (by
        simp only [DataW.weights, Tryd.underlying23, List.mem_cons, List.mem_append]
        exact .inr (.inl (weightsAll_mem (by simp [DataW.weights]) hm2)))
      have e2 : ((ss.take len').getD i ByteArray.empty).data.toList.length = ((ss.take len').getD i ByteArray.empty).size := rfl
      rw [e2] at this
      exact of_decide_eq_true this
end Go.Proofs.YtanfolfopalbeabDoor
namespace Go.Proofs.YtanfolfopalbeabDoor
open Go.RowKit

set_option maxRecDepth 100000 in
set_option maxHeartbeats 400000 in
theorem sameT_empty (ao ao' : Option Addr) (cap cap' : Nat) (w : World) :
    Calls Tryd.prog 51 #[.slice ao 0 cap, .slice ao' 0 cap'] w fun e w' => e = .returned (.bool true) ∧ Below w.heap.size w w' := by
  go_enter Tryd.func51, Tryd.ntmps51
  go_wp2
  refine wp_loop_rounds 1 ?_
  rw [rounds_succ]
  go_wp2
  go_ret
  exact ⟨rfl, Below.refl _ _⟩

set_option maxRecDepth 100000 in
set_option maxHeartbeats 400000 in
theorem sameT_some (b off cap b' off' cap' : Nat) (ss : List ByteArray) (w : World) (hm : ss.length ≤ maxLen)
    (hc : ∀ i, i < ss.length → w.cell? ⟨b, off + i, none⟩ = some (.string (ss.getD i ByteArray.empty))) (hc' : ∀ i, i < ss.length → w.cell? ⟨b', off' + i, none⟩ = some (.string (ss.getD i ByteArray.empty))) :
    Calls Tryd.prog 51 #[.slice (some ⟨b, off, none⟩) ss.length cap, .slice (some ⟨b', off', none⟩) ss.length cap'] w fun e w' => e = .returned (.bool true) ∧ Below w.heap.size w w' := by
  unfold maxLen at hm
  have HC := hide hc
  have HC' := hide hc'
  clear hc hc'
  have hne : ((ss.length : Int) != (ss.length : Int)) = false := by simp
  go_enter Tryd.func51, Tryd.ntmps51
  go_wp2
  go_loopw [5] (fun i wr => ∃ k : Nat, k ≤ ss.length ∧ i = .int .i64 k ∧ Below w.heap.size w wr) (fun i _ => ss.length - (intOf i).toNat)
  case atStart => exact ⟨0, Nat.zero_le _, rfl, Below.refl _ _⟩
  case round =>
    obtain ⟨k, hk, rfl, hbel⟩ := hrel
    by_cases hlt : k < ss.length
    · obtain ⟨s, hs⟩ : ∃ s, s = ss.getD k ByteArray.empty := ⟨_, rfl⟩
      have h1 := unhide HC k hlt
      have h2 := unhide HC' k hlt
      rw [← hs] at h1 h2
      clear hs
      have g1 : wr.cell? ⟨b, off + k, none⟩ = some (.string s) := by rw [hbel.cell (p := ⟨b, off + k, none⟩) (cell_lt h1)]; exact h1
      have g2 : wr.cell? ⟨b', off' + k, none⟩ = some (.string s) := by rw [hbel.cell (p := ⟨b', off' + k, none⟩) (cell_lt h2)]; exact h2
      have hlti : (k : Int) < (ss.length : Int) := by omega
      have hk0 : (0 : Int) ≤ (k : Int) := by omega
      clear h1 h2
      go_wp2
      go_quiet (fail)
      go_wp2
      go_roundw
      case rel => exact ⟨k + 1, by omega, by go_num, below_drewN hbel _⟩
      case measure => simp [intOf]; omega
    · go_wp2
      go_ret
      exact ⟨rfl, hbel⟩
theorem sameT_any (v v' : Value) (ss : List ByteArray) (w : World) (h : Strs w v ss) (h' : Strs w v' ss) :
    Calls Tryd.prog 51 #[v, v'] w fun e w' => e = .returned (.bool true) ∧ Below w.heap.size w w' := by
  obtain ⟨ao, cap, rfl, h1, h2, h3⟩ := h
  obtain ⟨ao', cap', rfl, h1', h2', h3'⟩ := h'
  rcases h3 with rfl | ⟨b, off, rfl, hc⟩
  · exact sameT_empty ao ao' cap cap' w
  · rcases h3' with rfl | ⟨b', off', rfl, hc'⟩
    · exact sameT_empty _ _ cap cap' w
    · exact sameT_some b off cap b' off' cap' ss w (Nat.le_trans h1 h2) hc hc'

set_option maxRecDepth 100000 in
set_option maxHeartbeats 400000 in
theorem num_any (n : Int) (w : World) : Calls Tryd.prog 28 #[.int .i64 n] w fun e w' => e = .returned (.int .i64 n) ∧ w' = w := by
  go_enter Tryd.func28, Tryd.ntmps28
  go_wp2
  go_ret
  exact ⟨rfl, rfl⟩

set_option maxRecDepth 100000 in
set_option maxHeartbeats 400000 in
theorem lent_any (x v : Value) (ss : List ByteArray) (w : World) (hx : Strs w x (lentL ss)) (h : Strs w v ss) (hm : ss.length * 16 ≤ 140737488351232) :
    Calls Tryd.prog 25 #[x, v] w fun e w' => e = .returned (.bool true) ∧ Below w.heap.size w w' := by
  have HX := hide hx
  have HS := hide h
  clear hx h
  go_enter Tryd.func25, Tryd.ntmps25
  go_wp2_with fail
  refine (lend_any v ss _ (unhide HS) hm).mono ?_
  rintro e w1 ⟨g, rfl, hown, hb⟩
  have R := hide (strs_of_own hown)
  have S := hide ((unhide HX).below hb (Nat.le_refl _))
  clear hown
  go_wp2_with fail
  refine (sameT_any _ _ (lentL ss) _ (unhide S) (unhide R)).mono ?_
  rintro e w2 ⟨rfl, hb2⟩
  go_wp2
  go_ret
  exact ⟨rfl, hb.trans (hb2.mono hb.size)⟩
end Go.Proofs.YtanfolfopalbeabDoor
namespace Go.Proofs.YtanfolfopalbeabDoor
open Go.RowKit

end Go.Proofs.YtanfolfopalbeabDoor
namespace Go.Proofs.YtanfolfopalbeabDoor
open Go.RowKit

/-- What tree keeps of its own: its table, its entries, what it lent, its two roots. -/
theorem pathR_small (ss : List ByteArray) (i : Int) : (proveR ss i).1.length ≤ 100 := by
  unfold proveR
  split
  · simp
  · split
    · simp
    · rename_i h1 h2
      have hc : chk ss = 0 := by omega
      obtain ⟨hl, _⟩ := chk_inv ss hc
      have := pathL_length ss.length ss i.toNat (Nat.le_refl _) (by omega)
      rw [this]
      have := path_small 7 ss.length i.toNat (by omega)
      omega

/-- What the book's list-taking call is told of other blocks: from its own beginning on. -/
theorem StD.rebase {P P' : Nat → Prop} {B : Nat} {w0 w : World} {G : Nat} {b : Bk} {tl : List Value} {xl : List (List UInt8)} {recs : List (Value × List UInt8)} {lv : Value} {nl : Nat} {ls : List (List UInt8)} (S : StD P B w0 w G b tl xl recs lv nl ls) (h : ∀ k, P' k → k < w.heap.size ∧ k ≠ G ∧ b.dv.ownBlock ≠ some k ∧ b.ev.ownBlock ≠ some k ∧ lv.ownBlock ≠ some k) : StD P' B w w G b tl xl recs lv nl ls :=
  ⟨S.bk, S.base, S.ht, S.hx, S.hl, S.hf, S.hs, S.tG, S.xG, S.lG, S.tx, S.tlv, S.xlv, Below.refl _ _, fun k hk => ⟨(h k hk).1, rfl, (h k hk).2⟩⟩
theorem StD.unbase {P P' : Nat → Prop} {B : Nat} {w0 w w' : World} {G : Nat} {b : Bk} {tl : List Value} {xl : List (List UInt8)} {recs : List (Value × List UInt8)} {lv : Value} {nl : Nat} {ls : List (List UInt8)} (S : StD P' B w w' G b tl xl recs lv nl ls) (hb : Below B w0 w) (hp : ∀ k, P k → P' k ∧ w.heap[k]? = w0.heap[k]?) : StD P B w0 w' G b tl xl recs lv nl ls :=
  ⟨S.bk, S.base, S.ht, S.hx, S.hl, S.hf, S.hs, S.tG, S.xG, S.lG, S.tx, S.tlv, S.xlv, hb.trans S.bel, fun k hk => by
    obtain ⟨h1, h2⟩ := hp k hk
    obtain ⟨h3, h4, h5⟩ := S.pr k h1
    exact ⟨h3, h4.trans h2, h5⟩⟩

/-- What tree keeps of its own: its table and what it lent. -/
def TK (w : World) (tb : List Nat) (g1 : Nat) (ss : List ByteArray) (wx : World) : Prop :=
  Below w.heap.size w wx ∧ URow wx w.heap.size 38 tb ∧ Strs wx (.slice (some ⟨g1, 0, none⟩) (ss.length + 2) (ss.length + 2)) (lentL ss)
theorem TK.later {w : World} {tb : List Nat} {g1 : Nat} {ss : List ByteArray} {wx wy : World} (h : TK w tb g1 ss wx) (hb : Below wx.heap.size wx wy) : TK w tb g1 ss wy :=
  ⟨h.1.trans (hb.mono h.1.size), h.2.1.below hb (Nat.le_refl _), h.2.2.below hb (Nat.le_refl _)⟩
theorem TK.front {w : World} {tb : List Nat} {g1 : Nat} {ss : List ByteArray} {wx : World} (h : TK w tb g1 ss wx) : Strs wx (.slice (some ⟨g1, 0, none⟩) ss.length (ss.length + 2)) ss := by
  have h1 := h.2.2.front ss.length (by omega)
  rwa [show (lentL ss).take ss.length = ss from List.take_left' rfl] at h1
theorem put_below (w : World) (A : Obj) (cs : Array Value) : Below w.heap.size w ((w.alloc A).setRow w.heap.size cs) := below_row ((Below.refl _ _).alloc (Nat.le_refl _) _) (Nat.le_refl _) _
theorem put_size (w : World) (A : Obj) (cs : Array Value) : ((w.alloc A).setRow w.heap.size cs).heap.size = w.heap.size + 1 := by rw [setRow_size]; simp
theorem brow_below {w w' : World} {g : Nat} {t : TypeId} {d : List UInt8} (h : BRow w g t d) (hb : Below w.heap.size w w') : BRow w' g t d := (hb.block _ (lt_of_block h)).trans h

def b0 : Bk := ⟨0, .slice none 0 0, .slice none 0 0, .slice none 0 0, .slice none 0 0, .slice none 0 0, .slice none 0 0, .slice none 0 0, .slice none 0 0⟩
theorem b0_cells : b0.cells = #[.int .i64 0, .slice none 0 0, .slice none 0 0, .slice none 0 0, .slice none 0 0, .slice none 0 0, .slice none 0 0, .slice none 0 0, .slice none 0 0] := rfl
/-- A new book, and a row that stands beside it. -/
theorem book_new {B G : Nat} {w : World} (hG : BkAt w G b0) (hB : B ≤ G) (P : Nat → Prop) (hP : ∀ k, P k → k < w.heap.size ∧ k ≠ G) : BkD P B w w G b0 [] :=
  ⟨hG, hB, World.ownsRow_nil _ _ _ _, World.ownsRow_nil _ _ _ _, World.ownsRow_nil _ _ _ _, (fun _ h => nomatch h), (fun _ h => nomatch h), (fun h => nomatch h), (fun h => nomatch h), (fun h => nomatch h), (fun _ h => nomatch h), (fun _ h => nomatch h), (fun _ h => nomatch h), Below.refl _ _, fun k hk => ⟨(hP k hk).1, rfl, (hP k hk).2, (fun h => nomatch h), (fun h => nomatch h), (fun h => nomatch h)⟩⟩

end Go.Proofs.YtanfolfopalbeabDoor
namespace Go.Proofs.YtanfolfopalbeabDoor
open Go.RowKit

theorem info_car : (Tryd.prog.info? 60).map (·.size) = some 3 := by kernel_rfl
theorem car_one (ao : Option Addr) (n c : Nat) (a b : ByteArray) : (#[Value.slice ao n c, .string a, .string b] : Array Value).all (·.oneCell') = true := by simp [Value.oneCell']
theorem results_car1 {P : Program} {fn : Func} {p : Tmp} {ty : TypeId} (h : fn.results = #[.cell p ty]) (tmps : Array Value) (w : World) (g : Nat) (t : TypeId) (cs : Array Value) (fr : Nat × Nat) (d : TypeDesc)
    (hp : tmps.getD p undef = .pointer (some ⟨g, 0, none⟩)) (hg : w.heap[g]? = some (.cells cs t fr))
    (hu : P.underlying ty = some d) (hd : (match d with | .struct _ | .array _ _ => true | _ => false) = true) (hi : (P.info? ty).map (·.size) = some cs.size) :
    (results fn tmps).run P w = .ok (.agg cs) w := by
  have hp' : tmps[p]?.getD undef = .pointer (some ⟨g, 0, none⟩) := by simpa using hp
  simp [results, h, hp', asAddr, run_loadVar_row w g t ty cs fr d hg hu hd hi]
theorem mk_getD (es : List (List UInt8)) (i : Nat) (hi : i < es.length) : (es.map mk).getD i ByteArray.empty = mk (es.getD i []) := by
  rw [List.getD_eq_getElem?_getD, List.getD_eq_getElem?_getD, List.getElem?_map, List.getElem?_eq_getElem hi]
  rfl
theorem bs_getD (rs : List ByteArray) (k : Nat) (hk : k < rs.length) : (bs rs)[k]? = some (rs.getD k ByteArray.empty).data.toList := by
  unfold bs
  rw [List.getElem?_map, List.getElem?_eq_getElem hk, List.getD_eq_getElem?_getD, List.getElem?_eq_getElem hk]
  rfl

/-- What stands in a loop over two chains. -/
def CollAt (ps qs : List (List UInt8)) (c : List UInt8 × List UInt8) (k : Nat) (l r : ByteArray) : Prop := coll (ps.drop k) (qs.drop k) l.data.toList r.data.toList = c
theorem CollAt.next {ps qs : List (List UInt8)} {c : List UInt8 × List UInt8} {k : Nat} {l r : ByteArray} (h : CollAt ps qs c k l r) (p q : ByteArray) (hp : ps[k]? = some p.data.toList) (hq : qs[k]? = some q.data.toList) (hw : wk l.data.toList ≠ wk r.data.toList) : CollAt ps qs c (k + 1) (lkt (wk l.data.toList) p) (lkt (wk r.data.toList) q) := by
  unfold CollAt at h ⊢
  have h1 : ps.drop k = p.data.toList :: ps.drop (k + 1) := by
    obtain ⟨hk, e⟩ := List.getElem?_eq_some_iff.1 hp
    rw [List.drop_eq_getElem_cons hk, e]
  have h2 : qs.drop k = q.data.toList :: qs.drop (k + 1) := by
    obtain ⟨hk, e⟩ := List.getElem?_eq_some_iff.1 hq
    rw [List.drop_eq_getElem_cons hk, e]
  rw [h1, h2, coll_next _ _ _ _ _ _ hw] at h
  rw [lkt_data, lkt_data]
  exact h
theorem CollAt.same {ps qs : List (List UInt8)} {c : List UInt8 × List UInt8} {k : Nat} {l r : ByteArray} (h : CollAt ps qs c k l r) (hw : wk l.data.toList = wk r.data.toList) : l = mk c.1 ∧ r = mk c.2 := by
  unfold CollAt at h
  rw [coll_same _ _ _ _ hw] at h
  rw [← h]
  exact ⟨rfl, rfl⟩
theorem CollAt.done {ps qs : List (List UInt8)} {c : List UInt8 × List UInt8} {k : Nat} {l r : ByteArray} (h : CollAt ps qs c k l r) (hk : ps.length ≤ k) : l = mk c.1 ∧ r = mk c.2 := by
  unfold CollAt at h
  rw [List.drop_of_length_le hk, coll_nil] at h
  rw [← h]
  exact ⟨rfl, rfl⟩

set_option maxRecDepth 100000 in
set_option maxHeartbeats 1600000 in
theorem collision_any (v : Value) (es : List (List UInt8)) (i : Nat) (entry : ByteArray) (before : Nat) (vr : Value) (rs : List ByteArray) (w : World) (h : Strs w v (es.map mk)) (hr : Strs w vr rs) (hi : i < es.length) (hl : rs.length = es.length - (i + 1)) (hes : ∀ e ∈ es, e.length ≤ 20) (h100 : es.length ≤ 100)
    (he : entry.size ≤ 140737488351232) (hbf : before < 65536) (hz : ∀ i, i < rs.length → (rs.getD i ByteArray.empty).size ≤ 140737488351232) (c : List UInt8 × List UInt8) (hc : c = coll (bs rs) (es.drop (i + 1)) (two before ++ entry.data.toList) (two (last 0 (es.take i)) ++ es.getD i [])) :
    Calls Tryd.prog 62 #[v, .int .i64 i, .string entry, .agg #[.int .u16 before, vr]] w fun e w' => e = .returned (.agg #[.slice none 0 0, .string (mk c.1), .string (mk c.2)]) ∧ Below w.heap.size w w' := by
  have hb0 : Below w.heap.size w ((w.alloc (.cells #[.int .u16 (before : Int), vr] 51)).alloc (.cells #[.slice none 0 0, .string ⟨#[]⟩, .string ⟨#[]⟩] 60)) := ((Below.refl _ _).alloc (Nat.le_refl _) _).alloc (by simp) _
  have hp0 : ((w.alloc (.cells #[.int .u16 (before : Int), vr] 51)).alloc (.cells #[.slice none 0 0, .string ⟨#[]⟩, .string ⟨#[]⟩] 60)).heap[w.heap.size]? = some (.cells #[.int .u16 (before : Int), vr] 51 (0, 0)) := (heap_alloc_old _ _ (by simp)).trans (heap_alloc_new w _)
  have hr0 : ((w.alloc (.cells #[.int .u16 (before : Int), vr] 51)).alloc (.cells #[.slice none 0 0, .string ⟨#[]⟩, .string ⟨#[]⟩] 60)).heap[w.heap.size + 1]? = some (.cells #[.slice none 0 0, .string ⟨#[]⟩, .string ⟨#[]⟩] 60 (0, 0)) := by
    have := heap_alloc_new (w.alloc (.cells #[.int .u16 (before : Int), vr] 51)) (.cells #[.slice none 0 0, .string ⟨#[]⟩, .string ⟨#[]⟩] 60)
    rwa [show (w.alloc (.cells #[.int .u16 (before : Int), vr] 51)).heap.size = w.heap.size + 1 by simp] at this
  have hz0 : ((w.alloc (.cells #[.int .u16 (before : Int), vr] 51)).alloc (.cells #[.slice none 0 0, .string ⟨#[]⟩, .string ⟨#[]⟩] 60)).heap.size = w.heap.size + 2 := by simp
  have hml : (es.map mk).length = es.length := List.length_map ..
  obtain ⟨ao, cap, hv, hc1, hc2, h3⟩ := h
  subst hv
  rcases h3 with h3 | ⟨b, off, rfl, hcc⟩
  · rw [List.map_eq_nil_iff] at h3; subst h3; cases hi
  rw [hml] at hc1 hcc ⊢
  unfold maxLen at hc2
  have HS := hide (show ∀ wq, Below w.heap.size w wq → Strs wq (.slice (some ⟨b, off, none⟩) es.length cap) (es.map mk) from fun wq hb => by
    have h0 : Strs w (.slice (some ⟨b, off, none⟩) es.length cap) (es.map mk) := ⟨_, cap, by rw [hml], by omega, by unfold maxLen; omega, .inr ⟨b, off, rfl, fun i hi => hcc i (by omega)⟩⟩
    exact h0.below hb (Nat.le_refl _))
  have HR := hide (fun wq (hb : Below w.heap.size w wq) => hr.below hb (Nat.le_refl _))
  obtain ⟨aor, cpr, rfl, hr1, hr2, hr3⟩ := hr
  unfold maxLen at hr2
  have HC := hide (show ∀ wq, Below w.heap.size w wq → ∀ k, k < es.length → wq.cell? ⟨b, off + k, none⟩ = some (.string (mk (es.getD k []))) from fun wq hb k hk => by
    have := hcc k hk
    rw [mk_getD es k hk] at this
    rw [hb.cell (p := ⟨b, off + k, none⟩) (cell_lt this)]
    exact this)
  have hsz : ∀ k, k < es.length → (mk (es.getD k [])).size ≤ 20 := fun k hk => by
    rw [mk_size, List.getD_eq_getElem?_getD, List.getElem?_eq_getElem hk, Option.getD_some]
    exact hes _ (List.getElem_mem hk)
  have hll := fun wq hs => lastLink_any 0 (.slice (some ⟨b, off, none⟩) i cap) ((es.map mk).take i) wq hs (by decide) (fun k hk => by
    have hk2 : k < i ∧ k < es.length := by rw [List.length_take, hml] at hk; omega
    rw [List.getD_eq_getElem?_getD, List.getElem?_take_of_lt hk2.1, ← List.getD_eq_getElem?_getD, mk_getD es k hk2.2]
    exact Nat.le_trans (hsz k hk2.2) (by decide))
  rw [← List.map_take, bs_mk] at hll
  have hL := last_lt (es.take i) 0 (by decide)
  generalize last 0 (es.take i) = L at hll hL hc
  rw [Int.natCast_zero] at hll
  have HCC : CollAt (bs rs) (es.drop (i + 1)) c 0 (lkt before entry) (lkt L (mk (es.getD i []))) := by
    unfold CollAt
    rw [List.drop_zero, List.drop_zero, lkt_data, lkt_data, mk_data]
    exact hc.symm
  have HCC := hide HCC
  have hsl := lkt_size before entry
  have hsr := lkt_size L (mk (es.getD i []))
  have hk1 := fun wq => linked_any before entry wq hbf he
  have hk2 := fun wq => linked_any L (mk (es.getD i [])) wq hL (Nat.le_trans (hsz i hi) (by decide))
  have hszi := hsz i hi
  generalize lkt before entry = l0 at hk1 HCC hsl
  generalize lkt L (mk (es.getD i [])) = r0 at hk2 HCC hsr
  generalize hei : mk (es.getD i []) = ei at hk2 hsr hszi
  have HEI := hide hei
  clear hei
  have HZ := hide hz
  have HSZ := hide hsz
  have HB0 := hide hb0
  have HP0 := hide hp0
  have HR0 := hide hr0
  have hl1 : rs.length + i + 1 ≤ es.length := by omega
  have hl2 : es.length ≤ rs.length + i + 1 := by omega
  clear hc hcc hr3 hz hsz hes hb0 hp0 hr0 hl
  go_enter Tryd.func62, Tryd.ntmps62
  go_upto_region 1 with fail
  generalize ((w.alloc (.cells #[.int .u16 (before : Int), .slice aor rs.length cpr] 51)).alloc (.cells #[.slice none 0 0, .string ⟨#[]⟩, .string ⟨#[]⟩] 60)) = W0 at HB0 HP0 HR0 hz0 ⊢
  by_cases hcj : cap = i + 1
  · subst hcj
    have hrz : rs.length ≤ 0 := by omega
    have HE := hide ((unhide HCC).done (by rw [bs_length]; omega))
    have S0 := hide ((unhide HS W0 (unhide HB0)).cutF i (by omega))
    rw [← List.map_take] at S0
    go_wp2_with fail
    refine (hll _ (unhide S0)).mono ?_
    rintro e w1 ⟨rfl, hb1⟩
    rw [hz0] at hb1
    have hs1 := hb1.size
    have c10 : w1.cell? ⟨w.heap.size, 0, none⟩ = some (.int .u16 (before : Int)) := by rw [cell_of_row w1 _ _ _ _ _ ((hb1.block _ (by omega)).trans (unhide HP0))]; rfl
    have K1 := hide hb1
    clear hb1 S0 hll
    go_wp2_with fail
    refine (hk1 _).mono ?_
    rintro e w2 ⟨rfl, hb2⟩
    have K2 := hide ((unhide K1).trans (hb2.mono (by omega)))
    have hs2 := (unhide K2).size
    have c2 := unhide HC w2 ((unhide HB0).trans ((unhide K2).mono (by omega))) i hi
    rw [unhide HEI] at c2
    clear hb2 K1 c10 hk1
    go_wp2_with fail
    refine (hk2 _).mono ?_
    rintro e w3 ⟨rfl, hb3⟩
    have K3 := hide ((unhide K2).trans (hb3.mono (by omega)))
    have hs3 := (unhide K3).size
    clear hb3 K2 c2 hk2
    go_wp2_with fail
    refine wp_loop_rounds 1 ?_
    rw [rounds_succ]
    obtain ⟨e1, e2⟩ := unhide HE
    have R9 := hide (show w3.heap[w.heap.size + 1]? = some (.cells #[.slice none 0 0, .string ⟨#[]⟩, .string ⟨#[]⟩] 60 (0, 0)) from ((unhide K3).block _ (by omega)).trans (unhide HR0))
    have hbel9 := (unhide HB0).trans ((unhide K3).mono (by omega))
    have E1 := hide e1
    have E2 := hide e2
    clear e1 e2
    go_wp2_with ((with_reducible refine at_store ?_); go_must (refine wpList_store_row rfl 60 _ _ rfl (w.heap.size + 1) _ rfl rfl 60 _ (unhide R9) info_car rfl (car_one _ _ _ _ _) ?_))
    rw [unhide E1, unhide E2]
    refine bodyPost_ret (v := .agg #[.slice none 0 0, .string (mk c.1), .string (mk c.2)]) ?_ rfl ⟨rfl, below_rowO hbel9 (by omega) _⟩
    exact results_car1 Tryd.results62 _ _ (w.heap.size + 1) 60 _ (0, 0) _ rfl (setRow_heap _ _ _ _ _ _ (unhide R9)) Tryd.underlying60 rfl info_car
  · have hqs : ∀ k, k < rs.length → (es.drop (i + 1))[k]? = some (mk (es.getD (i + 1 + k) [])).data.toList := fun k hk => by
      rw [mk_data, List.getElem?_drop, List.getD_eq_getElem?_getD, List.getElem?_eq_getElem (by omega : i + 1 + k < es.length)]
      rfl
    have HQS := hide hqs
    clear hqs
    have S0 := hide ((unhide HS W0 (unhide HB0)).cutF i (by omega))
    rw [← List.map_take] at S0
    go_wp2_with fail
    refine (hll _ (unhide S0)).mono ?_
    rintro e w1 ⟨rfl, hb1⟩
    rw [hz0] at hb1
    have hs1 := hb1.size
    have c10 : w1.cell? ⟨w.heap.size, 0, none⟩ = some (.int .u16 (before : Int)) := by rw [cell_of_row w1 _ _ _ _ _ ((hb1.block _ (by omega)).trans (unhide HP0))]; rfl
    have K1 := hide hb1
    clear hb1 S0 hll
    go_wp2_with fail
    refine (hk1 _).mono ?_
    rintro e w2 ⟨rfl, hb2⟩
    have K2 := hide ((unhide K1).trans (hb2.mono (by omega)))
    have hs2 := (unhide K2).size
    have c2 := unhide HC w2 ((unhide HB0).trans ((unhide K2).mono (by omega))) i hi
    rw [unhide HEI] at c2
    clear hb2 K1 c10 hk1
    go_wp2_with fail
    refine (hk2 _).mono ?_
    rintro e w3 ⟨rfl, hb3⟩
    have K3 := hide ((unhide K2).trans (hb3.mono (by omega)))
    have hs3 := (unhide K3).size
    clear hb3 K2 c2 hk2
    go_wp2_with fail
    go_loopw [11, 12, 13] (fun vl vr vk wr => ∃ (k : Nat) (lb rb : ByteArray), k ≤ rs.length ∧ vl = .string lb ∧ vr = .string rb ∧ vk = .int .i64 k ∧ lb.size ≤ 140737488351234 ∧ rb.size ≤ 22 ∧ CollAt (bs rs) (es.drop (i + 1)) c k lb rb ∧ Below (w.heap.size + 2) W0 wr) (fun _ _ vk _ => rs.length - (intOf vk).toNat)
    case atStart => exact ⟨0, l0, r0, Nat.zero_le _, rfl, rfl, rfl, by omega, by omega, unhide HCC, unhide K3⟩
    case round =>
      obtain ⟨k, lb, rb, hk, rfl, rfl, rfl, hlb, hrb, hca, hbel⟩ := hrel
      have HCA := hide hca
      have hp := cell_of_row wr w.heap.size 1 _ _ _ ((hbel.block _ (by omega)).trans (unhide HP0))
      have c1 : wr.cell? ⟨w.heap.size, 1, none⟩ = some (.slice aor rs.length cpr) := hp
      have hsw := hbel.size
      have hsw' : w.heap.size + 2 ≤ wr.heap.size := by omega
      clear hca hp
      by_cases hlt : k < rs.length
      · have hd1 : decide ((k : Int) < ((es.length - (i + 1) : Nat) : Int)) = true := by simp; omega
        have hd2 : decide ((k : Int) < (rs.length : Int)) = true := by simp; omega
        have hw1 := fun wq => weak_any lb wq (by unfold maxLen; omega)
        have hw2 := fun wq => weak_any rb wq (by unfold maxLen; omega)
        have hwl1 := wk_lt lb.data.toList
        have hwl2 := wk_lt rb.data.toList
        by_cases hq : wk lb.data.toList = wk rb.data.toList
        · have HF := hide ((unhide HCA).same hq)
          rw [hq] at hw1
          generalize wk rb.data.toList = q at hw1 hw2 hwl2
          clear hwl1 hq
          obtain ⟨e1, e2⟩ := unhide HF
          have R9 := hide (show wr.heap[w.heap.size + 1]? = some (.cells #[.slice none 0 0, .string ⟨#[]⟩, .string ⟨#[]⟩] 60 (0, 0)) from (hbel.block _ (by omega)).trans (unhide HR0))
          have hbel9 := (unhide HB0).trans (hbel.mono (by omega))
          have E1 := hide e1
          have E2 := hide e2
          clear e1 e2
          go_wp2_with fail
          refine (hw1 _).mono ?_
          rintro e wz ⟨rfl, hez⟩
          have hez2 := hez.symm
          clear hez
          subst hez2
          go_wp2_with fail
          refine (hw2 _).mono ?_
          rintro e wz ⟨rfl, hez⟩
          have hez2 := hez.symm
          clear hez
          subst hez2
          have hqq : ((q : Int) == (q : Int)) = true := by simp
          go_wp2_with ((with_reducible refine at_store ?_); go_must (refine wpList_store_row rfl 60 _ _ rfl (w.heap.size + 1) _ rfl rfl 60 _ (unhide R9) info_car rfl (car_one _ _ _ _ _) ?_))
          rw [unhide E1, unhide E2]
          refine bodyPost_ret (v := .agg #[.slice none 0 0, .string (mk c.1), .string (mk c.2)]) ?_ rfl ⟨rfl, below_rowO hbel9 (by omega) _⟩
          exact results_car1 Tryd.results62 _ _ (w.heap.size + 1) 60 _ (0, 0) _ rfl (setRow_heap _ _ _ _ _ _ (unhide R9)) Tryd.underlying60 rfl info_car
        · obtain ⟨ao', cp', hev, _, _, h3⟩ := unhide HR wr ((unhide HB0).trans (hbel.mono (by omega)))
          injection hev with hev1 hev2 hev3
          rcases h3 with h3 | ⟨br, ofr, h3, hcr⟩
          · rw [h3] at hlt; cases hlt
          rw [← hev1] at h3
          subst h3
          have hps := bs_getD rs k hlt
          have hpz := unhide HZ k hlt
          have cr := hcr k hlt
          generalize rs.getD k ByteArray.empty = pk at hps hpz cr
          have hqs := unhide HQS k hlt
          have hqz := unhide HSZ (i + 1 + k) (by omega)
          have hce := fun wq hb => unhide HC wq hb (i + 1 + k) (by omega)
          generalize mk (es.getD (i + 1 + k) []) = ek at hqs hqz hce
          have HN := hide ((unhide HCA).next pk ek hps hqs hq)
          have hsl2 := lkt_size (wk lb.data.toList) pk
          have hsr2 := lkt_size (wk rb.data.toList) ek
          have hqne : (((wk lb.data.toList : Nat) : Int) == ((wk rb.data.toList : Nat) : Int)) = false := by rw [beq_eq_false_iff_ne]; omega
          generalize wk lb.data.toList = q1 at hw1 hwl1 HN hsl2 hqne
          generalize wk rb.data.toList = q2 at hw2 hwl2 HN hsr2 hqne
          have hn1 := fun wq => linked_any q1 pk wq hwl1 hpz
          have hn2 := fun wq => linked_any q2 ek wq hwl2 (Nat.le_trans hqz (by decide))
          generalize lkt q1 pk = lb2 at hn1 HN hsl2
          generalize lkt q2 ek = rb2 at hn2 HN hsr2
          clear hcr hps hqs hq hev1 hev2 hev3
          go_wp2_with fail
          refine (hw1 _).mono ?_
          rintro e wz ⟨rfl, hez⟩
          have hez2 := hez.symm
          clear hez
          subst hez2
          go_wp2_with fail
          refine (hw2 _).mono ?_
          rintro e wz ⟨rfl, hez⟩
          have hez2 := hez.symm
          clear hez
          subst hez2
          go_wp2_with fail
          refine (hn1 _).mono ?_
          rintro e w4 ⟨rfl, hb4⟩
          have K4 := hide (hbel.trans (hb4.mono hsw'))
          have ce := hce w4 ((unhide HB0).trans ((unhide K4).mono (by omega)))
          rw [← Nat.add_assoc] at ce
          have hs4 := (unhide K4).size
          clear hb4 cr c1 hw1 hw2 hn1 hce
          go_wp2_with fail
          refine (hn2 _).mono ?_
          rintro e w5 ⟨rfl, hb5⟩
          have K5 := hide ((unhide K4).trans (hb5.mono (by omega)))
          clear hb5 K4 hn2
          go_wp2
          go_roundw
          case rel => exact ⟨k + 1, lb2, rb2, by omega, rfl, rfl, by go_num, by omega, by omega, unhide HN, unhide K5⟩
          case measure => simp [intOf]; omega
      · have hd1 : decide ((k : Int) < ((es.length - (i + 1) : Nat) : Int)) = false := by simp; omega
        have HF := hide ((unhide HCA).done (by rw [bs_length]; omega))
        obtain ⟨e1, e2⟩ := unhide HF
        have R9 := hide (show wr.heap[w.heap.size + 1]? = some (.cells #[.slice none 0 0, .string ⟨#[]⟩, .string ⟨#[]⟩] 60 (0, 0)) from (hbel.block _ (by omega)).trans (unhide HR0))
        have hbel9 := (unhide HB0).trans (hbel.mono (by omega))
        have E1 := hide e1
        have E2 := hide e2
        clear e1 e2
        go_wp2_with ((with_reducible refine at_store ?_); go_must (refine wpList_store_row rfl 60 _ _ rfl (w.heap.size + 1) _ rfl rfl 60 _ (unhide R9) info_car rfl (car_one _ _ _ _ _) ?_))
        rw [unhide E1, unhide E2]
        refine bodyPost_ret (v := .agg #[.slice none 0 0, .string (mk c.1), .string (mk c.2)]) ?_ rfl ⟨rfl, below_rowO hbel9 (by omega) _⟩
        exact results_car1 Tryd.results62 _ _ (w.heap.size + 1) 60 _ (0, 0) _ rfl (setRow_heap _ _ _ _ _ _ (unhide R9)) Tryd.underlying60 rfl info_car
end Go.Proofs.YtanfolfopalbeabDoor
namespace Go.Proofs.YtanfolfopalbeabDoor
open Go.RowKit

theorem rdT_facts : ∀ (f k v : Nat) (l : List UInt8), k ≤ 100 → (rd f k v l).1.length + k ≤ 100 ∧ (∀ e ∈ (rd f k v l).1, e.length ≤ 20) ∧ (rd f k v l).2.1 ≤ 4 ∧ (rd f k v l).2.2 ≤ 100 := by
  intro f
  induction f with
  | zero => intro k v l hk; exact ⟨by simpa [rd] using hk, by simp [rd], by simp [rd], by simp [rd]⟩
  | succ f ih =>
    intro k v l hk
    by_cases hl : l = []
    · subst hl
      rw [rd_end]
      exact ⟨by simpa using hk, by simp, by simp, by simp⟩
    · by_cases h1 : k = 100
      · subst h1
        rw [rd_full f v l hl]
        exact ⟨by simp, by simp, by simp, by simp⟩
      · by_cases he : rfErr l v = 0
        · rw [rd_step f k v l hl h1 he]
          obtain ⟨a, b, c, d⟩ := ih (k + 1) (rfLnk l v) (l.drop (3 + (rfEnt l v).length)) (by omega)
          refine ⟨by simp only [List.length_cons]; omega, ?_, c, d⟩
          intro e hm
          rcases List.mem_cons.1 hm with rfl | hm
          · exact (rfEnt_le l v).1
          · exact b e hm
        · rw [rd_bad f k v l hl h1 he]
          exact ⟨by simpa using hk, by simp, rfErr_le l v, hk⟩
theorem rdOldT_facts (l : List UInt8) : (rdOld l).1.length ≤ 100 ∧ (∀ e ∈ (rdOld l).1, e.length ≤ 20) ∧ (rdOld l).2.1 ≤ 4 ∧ (rdOld l).2.2 ≤ 100 := by
  unfold rdOld
  split
  · exact ⟨by simp, by simp, by simp, by simp⟩
  · have := rdT_facts l.length 0 0 l (by omega)
    exact ⟨by omega, this.2.1, this.2.2.1, this.2.2.2⟩

theorem own_baseT {w : World} {B base : Nat} {e : TypeId} {s : Nat} {v : Value} {n : Nat} {xs : List Value} (h : w.ownsRow base e s v n xs) (hB : B ≤ base) : w.ownsRow B e s v n xs := by
  obtain ⟨h1, h2⟩ := h
  refine ⟨h1, ?_⟩
  rcases h2 with h2 | ⟨g, cap, cur, h3, h4, h5⟩
  · exact .inl h2
  · exact .inr ⟨g, cap, cur, h3, Nat.le_trans hB h4, h5⟩
theorem own_sameO {w w' : World} {B : Nat} {e : TypeId} {s : Nat} {v : Value} {n : Nat} {xs : List Value} (h : w.ownsRow B e s v n xs) (hk : ∀ k, v.ownBlock = some k → w'.heap[k]? = w.heap[k]?) : w'.ownsRow B e s v n xs := by
  obtain ⟨h1, h2⟩ := h
  refine ⟨h1, ?_⟩
  rcases h2 with h2 | ⟨g, cap, cur, rfl, h3, h4, h5⟩
  · exact .inl h2
  · exact .inr ⟨g, cap, cur, rfl, h3, (hk g rfl).trans h4, h5⟩
/-- What Translate answers, of what was read: the path, the two texts, the error. -/
def trOf (es : List (List UInt8)) (er : Nat) (i : Int) (entry : ByteArray) (before : Nat) (rest : List ByteArray) : List (List UInt8) × List UInt8 × List UInt8 × Nat :=
  if er ≠ 0 then ([], [], [], er)
  else if i < 0 ∨ (es.length : Int) ≤ i then ([], [], [], 5)
  else if ovR (last 0 es) es.length i entry before rest = false then ([], [], [], 10)
  else if es.getD i.toNat [] = entry.data.toList then (pathL (es.map mk) i.toNat, [], [], 0)
  else ([], (coll (bs rest) (es.drop (i.toNat + 1)) (two before ++ entry.data.toList) (two (last 0 (es.take i.toNat)) ++ es.getD i.toNat [])).1, (coll (bs rest) (es.drop (i.toNat + 1)) (two before ++ entry.data.toList) (two (last 0 (es.take i.toNat)) ++ es.getD i.toNat [])).2, 11)
/-- What Translate answers. -/
def trR (l : List UInt8) (i : Int) (entry : ByteArray) (before : Nat) (rest : List ByteArray) : List (List UInt8) × List UInt8 × List UInt8 × Nat := trOf (rdOld l).1 (rdOld l).2.1 i entry before rest
theorem ovR_length {head : Nat} {n i : Int} {entry : ByteArray} {before : Nat} {rest : List ByteArray} (h : ovR head n i entry before rest = true) : (rest.length : Int) = n - 1 - i ∧ last (lnk before entry.data.toList) (bs rest) = head := by
  unfold ovR at h
  split at h
  · cases h
  · rename_i hh
    exact ⟨by omega, of_decide_eq_true h⟩

set_option maxRecDepth 100000 in
set_option maxHeartbeats 1600000 in
theorem tproof_any (s : ByteArray) (i : Int) (entry : ByteArray) (before : Nat) (vr : Value) (rs : List ByteArray) (w : World) (hm : s.size ≤ maxLen) (hi : -9223372036854775808 ≤ i ∧ i ≤ 9223372036854775807) (he : entry.size ≤ 140737488351232) (hbf : before < 65536) (hr : Strs w vr rs) (hz : ∀ i, i < rs.length → (rs.getD i ByteArray.empty).size ≤ 140737488351232) (hT : Tabs w) :
    Calls Tryd.prog 37 #[.string s, .int .i64 i, .string entry, .agg #[.int .u16 before, vr]] w fun e w' => ∃ v', e = .returned (.tuple #[.agg #[v', .string (mk (trR s.data.toList i entry before rs).2.1), .string (mk (trR s.data.toList i entry before rs).2.2.1)], .int .i64 (trR s.data.toList i entry before rs).2.2.2]) ∧
      w'.ownsRow w.heap.size 64 32 v' (trR s.data.toList i entry before rs).1.length (dcells (trR s.data.toList i entry before rs).1) ∧ Below w.heap.size w w' := by
  have hb0 : Below w.heap.size w ((w.alloc (.cells #[.int .u16 (before : Int), vr] 51)).alloc (.cells #[.slice none 0 0, .string ⟨#[]⟩, .string ⟨#[]⟩] 60)) := ((Below.refl _ _).alloc (Nat.le_refl _) _).alloc (by simp) _
  have hp0 : ((w.alloc (.cells #[.int .u16 (before : Int), vr] 51)).alloc (.cells #[.slice none 0 0, .string ⟨#[]⟩, .string ⟨#[]⟩] 60)).heap[w.heap.size]? = some (.cells #[.int .u16 (before : Int), vr] 51 (0, 0)) := (heap_alloc_old _ _ (by simp)).trans (heap_alloc_new w _)
  have hr0 : ((w.alloc (.cells #[.int .u16 (before : Int), vr] 51)).alloc (.cells #[.slice none 0 0, .string ⟨#[]⟩, .string ⟨#[]⟩] 60)).heap[w.heap.size + 1]? = some (.cells #[.slice none 0 0, .string ⟨#[]⟩, .string ⟨#[]⟩] 60 (0, 0)) := by
    have := heap_alloc_new (w.alloc (.cells #[.int .u16 (before : Int), vr] 51)) (.cells #[.slice none 0 0, .string ⟨#[]⟩, .string ⟨#[]⟩] 60)
    rwa [show (w.alloc (.cells #[.int .u16 (before : Int), vr] 51)).heap.size = w.heap.size + 1 by simp] at this
  have hz0 : ((w.alloc (.cells #[.int .u16 (before : Int), vr] 51)).alloc (.cells #[.slice none 0 0, .string ⟨#[]⟩, .string ⟨#[]⟩] 60)).heap.size = w.heap.size + 2 := by simp
  have HR := hide (fun wq (hb : Below w.heap.size w wq) => hr.below hb (Nat.le_refl _))
  have HT := hide (fun wq (hb : Below w.heap.size w wq) => hT.below hb (Nat.le_refl _))
  obtain ⟨aor, cpr, rfl, hr1, hr2, _⟩ := hr
  unfold maxLen at hr2
  have hrd := fun wq => read_any s wq hm
  obtain ⟨h100, hes, her, _⟩ := rdOldT_facts s.data.toList
  unfold trR
  generalize (rdOld s.data.toList).2.2 = nr at hrd
  generalize (rdOld s.data.toList).2.1 = er at hrd her ⊢
  generalize (rdOld s.data.toList).1 = es at hrd h100 hes ⊢
  have hml : (es.map mk).length = es.length := List.length_map ..
  obtain ⟨hi0, hi1⟩ := hi
  have HZ := hide hz
  have HES := hide hes
  have HB0 := hide hb0
  have HP0 := hide hp0
  have HR0 := hide hr0
  clear hz hes hb0 hp0 hr0 hT
  have hop : (Tryd.prog.info? 51).map (·.size) = some 2 := info_opf
  by_cases h1 : er = 0
  · subst h1
    by_cases h2 : i < 0
    · have HP := hide (show trOf es 0 i entry before rs = ([], [], [], 5) by unfold trOf; rw [if_neg (by decide), if_pos (.inl h2)])
      rw [unhide HP]
      have hd : decide (i < 0) = true := by simp; omega
      go_enter Tryd.func37, Tryd.ntmps37
      go_upto_region 1 with fail
      generalize ((w.alloc (.cells #[.int .u16 (before : Int), .slice aor rs.length cpr] 51)).alloc (.cells #[.slice none 0 0, .string ⟨#[]⟩, .string ⟨#[]⟩] 60)) = W0 at HB0 HP0 HR0 hz0 ⊢
      go_wp2_with fail
      refine (hrd _).mono ?_
      rintro e w1 ⟨v1, rfl, hown1, hb1⟩
      rw [hz0] at hb1 hown1
      have hs1 := hb1.size
      obtain ⟨ao1, cp1, rfl⟩ := own_shape hown1
      have R9 := hide (show w1.heap[w.heap.size + 1]? = some (.cells #[.slice none 0 0, .string ⟨#[]⟩, .string ⟨#[]⟩] 60 (0, 0)) from (hb1.block _ (by omega)).trans (unhide HR0))
      have hbel9 := (unhide HB0).trans (hb1.mono (by omega))
      go_wp2_with ((with_reducible refine at_store ?_); go_must (refine wpList_store_row rfl 60 _ _ rfl (w.heap.size + 1) _ rfl rfl 60 _ (unhide R9) info_car rfl (car_one _ _ _ _ _) ?_))
      refine bodyPost_ret (v := .tuple #[.agg #[.slice none 0 0, .string (mk []), .string (mk [])], .int .i64 5]) ?_ rfl ⟨_, rfl, World.ownsRow_nil _ _ _ _, below_rowO hbel9 (by omega) _⟩
      exact results_opf Tryd.results37 _ _ (w.heap.size + 1) 60 _ (0, 0) _ rfl (setRow_heap _ _ _ _ _ _ (unhide R9)) Tryd.underlying60 rfl info_car
    have hd : decide (i < 0) = false := by simp; omega
    by_cases h3 : (es.length : Int) ≤ i
    · have HP := hide (show trOf es 0 i entry before rs = ([], [], [], 5) by unfold trOf; rw [if_neg (by decide), if_pos (.inr h3)])
      rw [unhide HP]
      have hd2 : decide ((es.length : Int) ≤ i) = true := by simp; omega
      go_enter Tryd.func37, Tryd.ntmps37
      go_upto_region 1 with fail
      generalize ((w.alloc (.cells #[.int .u16 (before : Int), .slice aor rs.length cpr] 51)).alloc (.cells #[.slice none 0 0, .string ⟨#[]⟩, .string ⟨#[]⟩] 60)) = W0 at HB0 HP0 HR0 hz0 ⊢
      go_wp2_with fail
      refine (hrd _).mono ?_
      rintro e w1 ⟨v1, rfl, hown1, hb1⟩
      rw [hz0] at hb1 hown1
      have hs1 := hb1.size
      obtain ⟨ao1, cp1, rfl⟩ := own_shape hown1
      have R9 := hide (show w1.heap[w.heap.size + 1]? = some (.cells #[.slice none 0 0, .string ⟨#[]⟩, .string ⟨#[]⟩] 60 (0, 0)) from (hb1.block _ (by omega)).trans (unhide HR0))
      have hbel9 := (unhide HB0).trans (hb1.mono (by omega))
      go_wp2_with ((with_reducible refine at_store ?_); go_must (refine wpList_store_row rfl 60 _ _ rfl (w.heap.size + 1) _ rfl rfl 60 _ (unhide R9) info_car rfl (car_one _ _ _ _ _) ?_))
      refine bodyPost_ret (v := .tuple #[.agg #[.slice none 0 0, .string (mk []), .string (mk [])], .int .i64 5]) ?_ rfl ⟨_, rfl, World.ownsRow_nil _ _ _ _, below_rowO hbel9 (by omega) _⟩
      exact results_opf Tryd.results37 _ _ (w.heap.size + 1) 60 _ (0, 0) _ rfl (setRow_heap _ _ _ _ _ _ (unhide R9)) Tryd.underlying60 rfl info_car
    have hd2 : decide ((es.length : Int) ≤ i) = false := by simp; omega
    obtain ⟨j, rfl⟩ : ∃ j : Nat, i = (j : Int) := ⟨i.toNat, by omega⟩
    have hj : j < es.length := by omega
    have hsz : ∀ k, k < (es.map mk).length → ((es.map mk).getD k ByteArray.empty).size ≤ 20 := fun k hk => by
      rw [hml] at hk
      rw [mk_getD es k hk, mk_size, List.getD_eq_getElem?_getD, List.getElem?_eq_getElem hk, Option.getD_some]
      exact unhide HES _ (List.getElem_mem hk)
    have HLL := hide (fun vq wq hs => lastLink_any 0 vq (es.map mk) wq hs (by decide) (fun k hk => Nat.le_trans (hsz k hk) (by decide)))
    have hLL := last_lt es 0 (by decide)
    have hcv := fun (h : Nat) (wq : World) hs => cverify_any h before (es.length : Int) (j : Int) entry (.slice aor rs.length cpr) rs wq hbf (by omega) (by omega) he hs (unhide HZ)
    cases hov : ovR (last 0 es) es.length j entry before rs
    · have HP := hide (show trOf es 0 j entry before rs = ([], [], [], 10) by unfold trOf; rw [if_neg (by decide), if_neg (by omega), if_pos hov])
      rw [unhide HP]
      have hcv2 := fun wq hs => hcv (last 0 es) wq hs
      rw [hov] at hcv2
      have hll := fun vq wq hs => unhide HLL vq wq hs
      rw [bs_mk] at hll
      generalize last 0 es = L at hll hcv2 hLL
      rw [Int.natCast_zero] at hll
      clear hcv HLL hov hsz
      go_enter Tryd.func37, Tryd.ntmps37
      go_upto_region 1 with fail
      generalize ((w.alloc (.cells #[.int .u16 (before : Int), .slice aor rs.length cpr] 51)).alloc (.cells #[.slice none 0 0, .string ⟨#[]⟩, .string ⟨#[]⟩] 60)) = W0 at HB0 HP0 HR0 hz0 ⊢
      go_wp2_with fail
      refine (hrd _).mono ?_
      rintro e w1 ⟨v1, rfl, hown1, hb1⟩
      rw [hz0] at hb1 hown1
      have hs1 := hb1.size
      obtain ⟨ao1, cp1, rfl⟩ := own_shape hown1
      have S1 := hide (strs_of_own hown1)
      have K1 := hide hb1
      clear hown1 hb1
      go_wp2_with fail
      refine (hll _ _ (unhide S1)).mono ?_
      rintro e w2 ⟨rfl, hb2⟩
      have K2 := hide ((unhide K1).trans (hb2.mono (by omega)))
      have hs2 := (unhide K2).size
      have P2 := hide (((unhide K2).block _ (by omega)).trans (unhide HP0))
      clear hb2 S1 K1 hll
      go_wp2_with ((with_reducible refine at_load ?_); go_must (refine wpList_load_row rfl 51 _ rfl w.heap.size (by rfl) 51 #[.int .u16 (before : Int), .slice aor rs.length cpr] (0, 0) _ (unhide P2) Tryd.underlying51 rfl info_opf ?_))
      refine (hcv2 _ (unhide HR _ ((unhide HB0).trans ((unhide K2).mono (by omega))))).mono ?_
      rintro e w3 ⟨rfl, hb3⟩
      have hb3 := (unhide K2).trans (hb3.mono (by omega))
      clear K2 P2
      have R9 := hide (show w3.heap[w.heap.size + 1]? = some (.cells #[.slice none 0 0, .string ⟨#[]⟩, .string ⟨#[]⟩] 60 (0, 0)) from (hb3.block _ (by omega)).trans (unhide HR0))
      have hbel9 := (unhide HB0).trans (hb3.mono (by omega))
      go_wp2_with ((with_reducible refine at_store ?_); go_must (refine wpList_store_row rfl 60 _ _ rfl (w.heap.size + 1) _ rfl rfl 60 _ (unhide R9) info_car rfl (car_one _ _ _ _ _) ?_))
      refine bodyPost_ret (v := .tuple #[.agg #[.slice none 0 0, .string (mk []), .string (mk [])], .int .i64 10]) ?_ rfl ⟨_, rfl, World.ownsRow_nil _ _ _ _, below_rowO hbel9 (by omega) _⟩
      exact results_opf Tryd.results37 _ _ (w.heap.size + 1) 60 _ (0, 0) _ rfl (setRow_heap _ _ _ _ _ _ (unhide R9)) Tryd.underlying60 rfl info_car
    · obtain ⟨hrl, hla⟩ := ovR_length hov
      have hcv2 := fun wq hs => hcv (last 0 es) wq hs
      rw [hov] at hcv2
      have hll := fun vq wq hs => unhide HLL vq wq hs
      rw [bs_mk] at hll
      by_cases heq : es.getD j [] = entry.data.toList
      · have HP := hide (show trOf es 0 j entry before rs = (pathL (es.map mk) j, [], [], 0) by unfold trOf; rw [if_neg (by decide), if_neg (by omega), if_neg (by rw [hov]; decide), Int.toNat_natCast, if_pos heq])
        rw [unhide HP]
        have hck : chk (es.map mk) = 0 := by
          unfold chk
          rw [if_neg (by omega), if_neg]
          rw [List.any_eq_true]
          rintro ⟨x, hx, hx2⟩
          obtain ⟨y, hy, rfl⟩ := List.mem_map.1 hx
          have := unhide HES y hy
          rw [mk_size] at hx2
          have := of_decide_eq_true hx2
          omega
        have hpr : proveR (es.map mk) j = (pathL (es.map mk) j, 0) := by
          unfold proveR
          rw [if_neg (by omega), if_neg (by rw [hml]; omega), Int.toNat_natCast]
        have htp := fun vq wq hs ht => treeProve_any vq (es.map mk) j wq (by omega) hs ht
        rw [hpr] at htp
        simp only at htp
        have hmkE : mk (es.getD j []) = entry := by rw [heq, mk_self]
        have hmg := mk_getD es j hj
        rw [hmkE] at hmg
        have HMG := hide hmg
        generalize pathL (es.map mk) j = pth at htp
        generalize last 0 es = L at hll hcv2 hLL hla
        rw [Int.natCast_zero] at hll
        clear hcv HLL hov hsz hrl hla hck hpr heq hmkE hmg
        go_enter Tryd.func37, Tryd.ntmps37
        go_upto_region 1 with fail
        generalize ((w.alloc (.cells #[.int .u16 (before : Int), .slice aor rs.length cpr] 51)).alloc (.cells #[.slice none 0 0, .string ⟨#[]⟩, .string ⟨#[]⟩] 60)) = W0 at HB0 HP0 HR0 hz0 ⊢
        go_wp2_with fail
        refine (hrd _).mono ?_
        rintro e w1 ⟨v1, rfl, hown1, hb1⟩
        rw [hz0] at hb1 hown1
        have hs1 := hb1.size
        obtain ⟨ao1, cp1, rfl⟩ := own_shape hown1
        have S1 := hide (strs_of_own hown1)
        have K1 := hide hb1
        clear hown1 hb1
        go_wp2_with fail
        refine (hll _ _ (unhide S1)).mono ?_
        rintro e w2 ⟨rfl, hb2⟩
        have K2 := hide ((unhide K1).trans (hb2.mono (by omega)))
        have hs2 := (unhide K2).size
        have P2 := hide (((unhide K2).block _ (by omega)).trans (unhide HP0))
        have S2 := hide ((unhide S1).below hb2 (Nat.le_refl _))
        clear hb2 S1 K1 hll
        go_wp2_with ((with_reducible refine at_load ?_); go_must (refine wpList_load_row rfl 51 _ rfl w.heap.size (by rfl) 51 #[.int .u16 (before : Int), .slice aor rs.length cpr] (0, 0) _ (unhide P2) Tryd.underlying51 rfl info_opf ?_))
        refine (hcv2 _ (unhide HR _ ((unhide HB0).trans ((unhide K2).mono (by omega))))).mono ?_
        rintro e w3 ⟨rfl, hb3⟩
        have K3 := hide ((unhide K2).trans (hb3.mono (by omega)))
        have S3 := hide ((unhide S2).below hb3 (Nat.le_refl _))
        have hs3 := (unhide K3).size
        have P3 := hide (((unhide K3).block _ (by omega)).trans (unhide HP0))
        have T3 := hide (unhide HT w3 ((unhide HB0).trans ((unhide K3).mono (by omega))))
        clear hb3 K2 P2 S2
        have ce : ∃ b off, ao1 = some ⟨b, off, none⟩ ∧ w3.cell? ⟨b, off + j, none⟩ = some (.string entry) := by
          obtain ⟨ao', cp', hev, _, _, h3⟩ := unhide S3
          injection hev with hev1 hev2 hev3
          rcases h3 with h3 | ⟨b, off, h3, hcc⟩
          · rw [List.map_eq_nil_iff] at h3; subst h3; cases hj
          · refine ⟨b, off, hev1.trans h3, ?_⟩
            rw [hcc j (by rw [hml]; exact hj), unhide HMG]
        obtain ⟨b, off, rfl, ce⟩ := ce
        have hee : (entry.toList != entry.toList) = false := by simp
        go_wp2_with fail
        refine (htp _ _ (unhide S3) (unhide T3)).mono ?_
        rintro e w4 ⟨v4, rfl, hown4, hb4⟩
        obtain ⟨ao4, cp4, rfl⟩ := own_shape hown4
        have O4 := hide (own_baseT hown4 (show w.heap.size ≤ w3.heap.size by omega))
        have hb4 := (unhide K3).trans (hb4.mono (by omega))
        have hne4 : ∀ k, (Value.slice ao4 pth.length cp4).ownBlock = some k → k ≠ w.heap.size + 1 := fun k hk => by have := (hown4.lt k hk).1; omega
        clear hown4
        have R9 := hide (show w4.heap[w.heap.size + 1]? = some (.cells #[.slice none 0 0, .string ⟨#[]⟩, .string ⟨#[]⟩] 60 (0, 0)) from (hb4.block _ (by omega)).trans (unhide HR0))
        have hbel9 := (unhide HB0).trans (hb4.mono (by omega))
        go_wp2_with ((with_reducible refine at_store ?_); go_must (refine wpList_store_row rfl 60 _ _ rfl (w.heap.size + 1) _ rfl rfl 60 _ (unhide R9) info_car rfl (car_one _ _ _ _ _) ?_))
        refine bodyPost_ret (v := .tuple #[.agg #[.slice ao4 pth.length cp4, .string (mk []), .string (mk [])], .int .i64 0]) ?_ rfl ⟨_, rfl, own_sameO (unhide O4) (fun k hk => setRow_other _ _ _ _ (hne4 k hk)), below_rowO hbel9 (by omega) _⟩
        exact results_opf Tryd.results37 _ _ (w.heap.size + 1) 60 _ (0, 0) _ rfl (setRow_heap _ _ _ _ _ _ (unhide R9)) Tryd.underlying60 rfl info_car
      · have HP := hide (show trOf es 0 j entry before rs = ([], (coll (bs rs) (es.drop (j + 1)) (two before ++ entry.data.toList) (two (last 0 (es.take j)) ++ es.getD j [])).1, (coll (bs rs) (es.drop (j + 1)) (two before ++ entry.data.toList) (two (last 0 (es.take j)) ++ es.getD j [])).2, 11) by unfold trOf; rw [if_neg (by decide), if_neg (by omega), if_neg (by rw [hov]; decide), Int.toNat_natCast, if_neg heq])
        rw [unhide HP]
        have hco := fun vq wq hs hr => collision_any vq es j entry before (.slice aor rs.length cpr) rs wq hs hr hj (by omega) (unhide HES) h100 he hbf (unhide HZ) _ rfl
        generalize coll (bs rs) (es.drop (j + 1)) (two before ++ entry.data.toList) (two (last 0 (es.take j)) ++ es.getD j []) = cc at hco
        obtain ⟨c1, c2⟩ := cc
        simp only at hco ⊢
        have hmg := mk_getD es j hj
        obtain ⟨ej, hej⟩ : ∃ ej, ej = mk (es.getD j []) := ⟨_, rfl⟩
        rw [← hej] at hmg
        have hee : (entry.toList == ej.toList) = false := by
          rw [beq_eq_false_iff_ne, hej, ByteArray.toList_eq, ByteArray.toList_eq, mk_data]
          exact fun h => heq h.symm
        have HMG := hide hmg
        generalize last 0 es = L at hll hcv2 hLL hla
        rw [Int.natCast_zero] at hll
        have hc1 : ∃ l1, l1 = mk c1 := ⟨_, rfl⟩
        have hc2 : ∃ l2, l2 = mk c2 := ⟨_, rfl⟩
        obtain ⟨l1, hl1⟩ := hc1
        obtain ⟨l2, hl2⟩ := hc2
        rw [← hl1, ← hl2] at hco ⊢
        clear hcv HLL hov hsz hrl hla heq hej hmg hl1 hl2
        go_enter Tryd.func37, Tryd.ntmps37
        go_upto_region 1 with fail
        generalize ((w.alloc (.cells #[.int .u16 (before : Int), .slice aor rs.length cpr] 51)).alloc (.cells #[.slice none 0 0, .string ⟨#[]⟩, .string ⟨#[]⟩] 60)) = W0 at HB0 HP0 HR0 hz0 ⊢
        go_wp2_with fail
        refine (hrd _).mono ?_
        rintro e w1 ⟨v1, rfl, hown1, hb1⟩
        rw [hz0] at hb1 hown1
        have hs1 := hb1.size
        obtain ⟨ao1, cp1, rfl⟩ := own_shape hown1
        have S1 := hide (strs_of_own hown1)
        have K1 := hide hb1
        clear hown1 hb1
        go_wp2_with fail
        refine (hll _ _ (unhide S1)).mono ?_
        rintro e w2 ⟨rfl, hb2⟩
        have K2 := hide ((unhide K1).trans (hb2.mono (by omega)))
        have hs2 := (unhide K2).size
        have P2 := hide (((unhide K2).block _ (by omega)).trans (unhide HP0))
        have S2 := hide ((unhide S1).below hb2 (Nat.le_refl _))
        clear hb2 S1 K1 hll
        go_wp2_with ((with_reducible refine at_load ?_); go_must (refine wpList_load_row rfl 51 _ rfl w.heap.size (by rfl) 51 #[.int .u16 (before : Int), .slice aor rs.length cpr] (0, 0) _ (unhide P2) Tryd.underlying51 rfl info_opf ?_))
        refine (hcv2 _ (unhide HR _ ((unhide HB0).trans ((unhide K2).mono (by omega))))).mono ?_
        rintro e w3 ⟨rfl, hb3⟩
        have K3 := hide ((unhide K2).trans (hb3.mono (by omega)))
        have S3 := hide ((unhide S2).below hb3 (Nat.le_refl _))
        have hs3 := (unhide K3).size
        have P3 := hide (((unhide K3).block _ (by omega)).trans (unhide HP0))
        have T3 := hide (unhide HT w3 ((unhide HB0).trans ((unhide K3).mono (by omega))))
        clear hb3 K2 P2 S2
        have ce : ∃ b off, ao1 = some ⟨b, off, none⟩ ∧ w3.cell? ⟨b, off + j, none⟩ = some (.string ej) := by
          obtain ⟨ao', cp', hev, _, _, h3⟩ := unhide S3
          injection hev with hev1 hev2 hev3
          rcases h3 with h3 | ⟨b, off, h3, hcc⟩
          · rw [List.map_eq_nil_iff] at h3; subst h3; cases hj
          · refine ⟨b, off, hev1.trans h3, ?_⟩
            rw [hcc j (by rw [hml]; exact hj), unhide HMG]
        obtain ⟨b, off, rfl, ce⟩ := ce
        go_wp2_with ((with_reducible refine at_load ?_); refine wpList_load_row rfl 51 _ rfl w.heap.size (by rfl) 51 #[.int .u16 (before : Int), .slice aor rs.length cpr] (0, 0) _ (unhide P3) Tryd.underlying51 rfl info_opf ?_)
        refine (hco _ _ (unhide S3) (unhide HR _ ((unhide HB0).trans ((unhide K3).mono (by omega))))).mono ?_
        rintro e w4 ⟨rfl, hb4⟩
        have hb4 := (unhide K3).trans (hb4.mono (by omega))
        have R9 := hide (show w4.heap[w.heap.size + 1]? = some (.cells #[.slice none 0 0, .string ⟨#[]⟩, .string ⟨#[]⟩] 60 (0, 0)) from (hb4.block _ (by omega)).trans (unhide HR0))
        have hbel9 := (unhide HB0).trans (hb4.mono (by omega))
        go_wp2_with ((with_reducible refine at_store ?_); go_must (refine wpList_store_row rfl 60 _ _ rfl (w.heap.size + 1) _ rfl rfl 60 _ (unhide R9) info_car rfl (car_one _ _ _ _ _) ?_))
        refine bodyPost_ret (v := .tuple #[.agg #[.slice none 0 0, .string l1, .string l2], .int .i64 11]) ?_ rfl ⟨_, rfl, World.ownsRow_nil _ _ _ _, below_rowO hbel9 (by omega) _⟩
        exact results_opf Tryd.results37 _ _ (w.heap.size + 1) 60 _ (0, 0) _ rfl (setRow_heap _ _ _ _ _ _ (unhide R9)) Tryd.underlying60 rfl info_car
  · have HP := hide (show trOf es er i entry before rs = ([], [], [], er) by unfold trOf; rw [if_pos h1])
    rw [unhide HP]
    have hne : ((er : Int) != 0) = true := by rw [bne_iff_ne]; omega
    go_enter Tryd.func37, Tryd.ntmps37
    go_upto_region 1 with fail
    generalize ((w.alloc (.cells #[.int .u16 (before : Int), .slice aor rs.length cpr] 51)).alloc (.cells #[.slice none 0 0, .string ⟨#[]⟩, .string ⟨#[]⟩] 60)) = W0 at HB0 HP0 HR0 hz0 ⊢
    go_wp2_with fail
    refine (hrd _).mono ?_
    rintro e w1 ⟨v1, rfl, hown1, hb1⟩
    rw [hz0] at hb1 hown1
    have hs1 := hb1.size
    obtain ⟨ao1, cp1, rfl⟩ := own_shape hown1
    have R9 := hide (show w1.heap[w.heap.size + 1]? = some (.cells #[.slice none 0 0, .string ⟨#[]⟩, .string ⟨#[]⟩] 60 (0, 0)) from (hb1.block _ (by omega)).trans (unhide HR0))
    have hbel9 := (unhide HB0).trans (hb1.mono (by omega))
    go_wp2_with ((with_reducible refine at_store ?_); go_must (refine wpList_store_row rfl 60 _ _ rfl (w.heap.size + 1) _ rfl rfl 60 _ (unhide R9) info_car rfl (car_one _ _ _ _ _) ?_))
    refine bodyPost_ret (v := .tuple #[.agg #[.slice none 0 0, .string (mk []), .string (mk [])], .int .i64 er]) ?_ rfl ⟨_, rfl, World.ownsRow_nil _ _ _ _, below_rowO hbel9 (by omega) _⟩
    exact results_opf Tryd.results37 _ _ (w.heap.size + 1) 60 _ (0, 0) _ rfl (setRow_heap _ _ _ _ _ _ (unhide R9)) Tryd.underlying60 rfl info_car

set_option maxRecDepth 100000 in
set_option maxHeartbeats 800000 in
theorem Translate_any (s : ByteArray) (i : Int) (entry : ByteArray) (before : Nat) (vr : Value) (rs : List ByteArray) (w : World) (hm : s.size ≤ maxLen) (hi : -9223372036854775808 ≤ i ∧ i ≤ 9223372036854775807) (he : entry.size ≤ 140737488351232) (hbf : before < 65536) (hr : Strs w vr rs) (hz : ∀ i, i < rs.length → (rs.getD i ByteArray.empty).size ≤ 140737488351232) (hT : Tabs w) :
    Calls Tryd.prog 15 #[.string s, .int .i64 i, .string entry, .agg #[.int .u16 before, vr]] w fun e w' => ∃ v', e = .returned (.tuple #[.agg #[v', .string (mk (trR s.data.toList i entry before rs).2.1), .string (mk (trR s.data.toList i entry before rs).2.2.1)], .int .i64 (trR s.data.toList i entry before rs).2.2.2]) ∧
      w'.ownsRow w.heap.size 64 32 v' (trR s.data.toList i entry before rs).1.length (dcells (trR s.data.toList i entry before rs).1) ∧ Below w.heap.size w w' := by
  have hb0 : Below w.heap.size w ((w.alloc (.cells #[.int .u16 (before : Int), vr] 51)).alloc (.cells #[.slice none 0 0, .string ⟨#[]⟩, .string ⟨#[]⟩] 60)) := ((Below.refl _ _).alloc (Nat.le_refl _) _).alloc (by simp) _
  have hp0 : ((w.alloc (.cells #[.int .u16 (before : Int), vr] 51)).alloc (.cells #[.slice none 0 0, .string ⟨#[]⟩, .string ⟨#[]⟩] 60)).heap[w.heap.size]? = some (.cells #[.int .u16 (before : Int), vr] 51 (0, 0)) := (heap_alloc_old _ _ (by simp)).trans (heap_alloc_new w _)
  have hr0 : ((w.alloc (.cells #[.int .u16 (before : Int), vr] 51)).alloc (.cells #[.slice none 0 0, .string ⟨#[]⟩, .string ⟨#[]⟩] 60)).heap[w.heap.size + 1]? = some (.cells #[.slice none 0 0, .string ⟨#[]⟩, .string ⟨#[]⟩] 60 (0, 0)) := by
    have := heap_alloc_new (w.alloc (.cells #[.int .u16 (before : Int), vr] 51)) (.cells #[.slice none 0 0, .string ⟨#[]⟩, .string ⟨#[]⟩] 60)
    rwa [show (w.alloc (.cells #[.int .u16 (before : Int), vr] 51)).heap.size = w.heap.size + 1 by simp] at this
  have hz0 : ((w.alloc (.cells #[.int .u16 (before : Int), vr] 51)).alloc (.cells #[.slice none 0 0, .string ⟨#[]⟩, .string ⟨#[]⟩] 60)).heap.size = w.heap.size + 2 := by simp
  have HR := hide (hr.below hb0 (Nat.le_refl _))
  have HT := hide (hT.below hb0 (Nat.le_refl _))
  obtain ⟨aor, cpr, rfl, hr1, hr2, _⟩ := hr
  have htp := fun wq hr ht => tproof_any s i entry before (.slice aor rs.length cpr) rs wq hm hi he hbf hr hz ht
  generalize trR s.data.toList i entry before rs = r at htp ⊢
  obtain ⟨p, c1, c2, er⟩ := r
  simp only at htp ⊢
  have hc1 : ∃ l1, l1 = mk c1 := ⟨_, rfl⟩
  have hc2 : ∃ l2, l2 = mk c2 := ⟨_, rfl⟩
  obtain ⟨l1, hl1⟩ := hc1
  obtain ⟨l2, hl2⟩ := hc2
  rw [← hl1, ← hl2] at htp ⊢
  have HB0 := hide hb0
  have HP0 := hide hp0
  have HR0 := hide hr0
  clear hb0 hp0 hr0 hT hz hl1 hl2
  go_enter Tryd.func15, Tryd.ntmps15
  go_upto_region 1 with fail
  generalize ((w.alloc (.cells #[.int .u16 (before : Int), .slice aor rs.length cpr] 51)).alloc (.cells #[.slice none 0 0, .string ⟨#[]⟩, .string ⟨#[]⟩] 60)) = W0 at HB0 HP0 HR0 hz0 HR HT ⊢
  go_wp2_with ((with_reducible refine at_load ?_); go_must (refine wpList_load_row rfl 51 _ rfl w.heap.size (by rfl) 51 #[.int .u16 (before : Int), .slice aor rs.length cpr] (0, 0) _ (unhide HP0) Tryd.underlying51 rfl info_opf ?_))
  refine (htp _ (unhide HR) (unhide HT)).mono ?_
  rintro e w1 ⟨v1, rfl, hown1, hb1⟩
  rw [hz0] at hb1 hown1
  have hs1 := hb1.size
  obtain ⟨ao1, cp1, rfl⟩ := own_shape hown1
  have O1 := hide (own_baseT hown1 (show w.heap.size ≤ w.heap.size + 2 by omega))
  have hne1 : ∀ k, (Value.slice ao1 p.length cp1).ownBlock = some k → k ≠ w.heap.size + 1 := fun k hk => by have := (hown1.lt k hk).1; omega
  have R9 := hide (show w1.heap[w.heap.size + 1]? = some (.cells #[.slice none 0 0, .string ⟨#[]⟩, .string ⟨#[]⟩] 60 (0, 0)) from (hb1.block _ (by omega)).trans (unhide HR0))
  have hbel9 := (unhide HB0).trans (hb1.mono (by omega))
  clear hown1 hb1
  go_wp2_with ((with_reducible refine at_store ?_); go_must (refine wpList_store_row rfl 60 _ _ rfl (w.heap.size + 1) _ rfl rfl 60 _ (unhide R9) info_car rfl (car_one _ _ _ _ _) ?_))
  refine bodyPost_ret (v := .tuple #[.agg #[.slice ao1 p.length cp1, .string l1, .string l2], .int .i64 er]) ?_ rfl ⟨_, rfl, own_sameO (unhide O1) (fun k hk => setRow_other _ _ _ _ (hne1 k hk)), below_rowO hbel9 (by omega) _⟩
  exact results_opf Tryd.results15 _ _ (w.heap.size + 1) 60 _ (0, 0) _ rfl (setRow_heap _ _ _ _ _ _ (unhide R9)) Tryd.underlying60 rfl info_car
end Go.Proofs.YtanfolfopalbeabDoor
namespace Go.Proofs.YtanfolfopalbeabDoor
open Go.RowKit

set_option maxRecDepth 100000 in
set_option maxHeartbeats 400000 in
theorem rRead_long (s : ByteArray) (w : World) (hs : 2300 < s.size) (hm : s.size ≤ maxLen) :
    Calls Tryd.prog 45 #[.string s] w fun e w' => e = .returned (.tuple #[.slice none 0 0, .int .i64 1, .int .i64 0]) ∧ w' = w := by
  unfold maxLen at hm
  go_enter Tryd.func45, Tryd.ntmps45
  go_wp2
  go_ret3
  exact ⟨rfl, rfl⟩

theorem frame_eq (x : ByteArray) (v n : Nat) (h0 : 0 < x.size) (hn : (x[0]'h0).toNat = n) (hl : n ≤ 20) (hc : n + 3 ≤ x.size) :
    ((x.extract 0 (n + 3)).data.toList = frm v (x.extract 1 (n + 1)).data.toList ↔ rfErr x.data.toList v = 0) ∧ (rfErr x.data.toList v = 0 ∨ rfErr x.data.toList v = 4) ∧ (x.extract 1 (n + 1)).size = n ∧
    (rfErr x.data.toList v = 0 → rfEnt x.data.toList v = (x.extract 1 (n + 1)).data.toList ∧ rfLnk x.data.toList v = lnk v (x.extract 1 (n + 1)).data.toList) := by
  obtain ⟨r, e, hr⟩ := ba_getElem x h0
  obtain ⟨g1, g2, g3⟩ := rf_facts x v (by omega) n hn hl (by omega)
  have e2 : (x.extract 1 (n + 1)).data.toList = r.take n := by
    rw [extract_data, e, show n + 1 - 1 = n by omega]
    rfl
  have e2' : (x.extract 1 (1 + n)).data.toList = r.take n := by rw [Nat.add_comm 1 n]; exact e2
  have e3 : (x.extract (1 + n) (3 + n)).data.toList = (r.drop n).take 2 := by
    rw [extract_data, e, show 1 + n = n + 1 by omega, show 3 + n - (n + 1) = 2 by omega, List.drop_succ_cons]
  have e4 : (x.extract 0 (n + 3)).data.toList = x[0] :: (r.take n ++ (r.drop n).take 2) := by
    rw [extract_data, e, List.drop_zero, Nat.sub_zero, List.take_succ_cons, show n + 2 = n + 2 from rfl, List.take_add]
  have hrl : (r.take n).length = n := by rw [List.length_take]; omega
  have e5 : x[0] = UInt8.ofNat n := by
    rw [← hn]
    exact (UInt8.ofNat_toNat).symm
  rw [e3, e2'] at g1
  rw [e2'] at g2
  refine ⟨?_, ?_, ?_, by rw [e2]; exact g2⟩
  · rw [e4, e2, frm, hrl, e5, g1]
    constructor
    · intro h
      have h1 := (List.cons.inj h).2
      rw [if_pos (List.append_cancel_left h1)]
    · intro h
      by_cases hq : (r.drop n).take 2 = two (lnk v (r.take n))
      · rw [hq]
      · rw [if_neg hq] at h
        exact absurd h (by decide)
  · rw [g1]
    by_cases hq : (r.drop n).take 2 = two (lnk v (r.take n))
    · rw [if_pos hq]; exact .inl rfl
    · rw [if_neg hq]; exact .inr rfl
  · have : (x.extract 1 (n + 1)).data.toList.length = (x.extract 1 (n + 1)).size := rfl
    rw [e2, hrl] at this
    exact this.symm
theorem rfErr_three (x : ByteArray) (v : Nat) (h0 : 0 < x.size) (hf : 20 < (x[0]'h0).toNat ∨ x.size < (x[0]'h0).toNat + 3) : rfErr x.data.toList v = 3 := by
  obtain ⟨r, e, hr⟩ := ba_getElem x h0
  rw [e]
  simp only [rfErr]
  rw [if_pos (by rcases hf with hf | hf; exact .inl hf; exact .inr (by omega))]
/-- The last link of the entries read so far is carried along. -/
def RdL (L : List UInt8) (acc : List (List UInt8)) (t : List UInt8) : Prop := RdAt L acc (last 0 acc) t ∧ ∀ e ∈ acc, e.length ≤ 20

set_option maxRecDepth 100000 in
set_option maxHeartbeats 1600000 in
theorem rRead_short (s : ByteArray) (w : World) (hs : s.size ≤ 2300) :
    Calls Tryd.prog 45 #[.string s] w fun e w' => ∃ v, e = .returned (.tuple #[v, .int .i64 (rd s.size 0 0 s.data.toList).2.1, .int .i64 (rd s.size 0 0 s.data.toList).2.2]) ∧
      w'.ownsRow w.heap.size 9 1 v (rd s.size 0 0 s.data.toList).1.length (((rd s.size 0 0 s.data.toList).1.map mk).map Value.string) ∧ Below w.heap.size w w' := by
  obtain ⟨i0, hi, hz0, hz1, hz2⟩ := info_parts info_str
  go_enter Tryd.func45, Tryd.ntmps45
  go_wp2
  go_loopw [0, 5] (fun t o wr => ∃ (acc : List (List UInt8)) (x : ByteArray), acc.length ≤ 100 ∧ x.size ≤ 2300 ∧ RdL s.data.toList acc x.data.toList ∧ t = .string x ∧
      wr.ownsRow w.heap.size 9 1 o acc.length ((acc.map mk).map Value.string) ∧ Below w.heap.size w wr) (fun t _ _ => (match t with | .string x => x.size | _ => 0))
  case atStart => exact ⟨[], s, by simp, hs, ⟨⟨_, Nat.le_refl _, by simp [last]⟩, fun e he => by cases he⟩, rfl, World.ownsRow_nil _ _ _ _, Below.refl _ _⟩
  case round =>
    obtain ⟨acc, x, hacc, hx, hR, rfl, hown, hbel⟩ := hrel
    obtain ⟨hR, hA⟩ := hR
    have HR := hide hR
    have HA := hide hA
    have hv := last_lt acc 0 (by omega)
    clear hR hA
    obtain ⟨ao, cap, rfl⟩ := own_shape hown
    by_cases hx0 : 0 < x.size
    · have ht : x.data.toList ≠ [] := by
        intro h
        have : x.data.toList.length = x.size := rfl
        rw [h] at this
        simp at this
        omega
      have HT := hide ht
      have hne : x.toList.isEmpty = false := by rw [ByteArray.toList_eq]; simpa using ht
      have hbx := (x[0]'hx0).toNat_lt
      clear ht
      by_cases ha : acc.length = 100
      · have HF := hide ((unhide HR).full (unhide HT) ha)
        have hd : ((acc.length : Int) == 100) = true := by rw [beq_iff_eq]; omega
        go_wp2
        go_ret3
        have hF := unhide HF
        rw [show s.data.toList.length = s.size from rfl] at hF
        rw [hF]
        exact ⟨_, by rw [ha]; rfl, by rw [← ha]; exact hown, hbel⟩
      · have hd : ((acc.length : Int) == 100) = false := by rw [beq_eq_false_iff_ne]; omega
        by_cases hbad : 20 < (x[0]'hx0).toNat ∨ x.size < (x[0]'hx0).toNat + 3
        · have he3 := rfErr_three x (last 0 acc) hx0 hbad
          have hbd := (unhide HR).bad (unhide HT) ha (by rw [he3]; decide)
          rw [he3] at hbd
          have HF := hide hbd
          clear hbd he3
          generalize hne0 : (x[0]'hx0).toNat = n at hbad hbx
          by_cases hl : 20 < n
          · have hd2 : decide ((20 : Int) < (n : Int)) = true := by simp; omega
            clear hbad
            go_wp2
            go_ret3
            have hF := unhide HF
            rw [show s.data.toList.length = s.size from rfl] at hF
            rw [hF]
            exact ⟨_, rfl, hown, hbel⟩
          · have hd2 : decide ((20 : Int) < (n : Int)) = false := by simp; omega
            have hd3 : decide ((x.size : Int) < (n : Int) + 3) = true := by simp; omega
            clear hbad
            go_wp2
            go_ret3
            have hF := unhide HF
            rw [show s.data.toList.length = s.size from rfl] at hF
            rw [hF]
            exact ⟨_, rfl, hown, hbel⟩
        · generalize hne0 : (x[0]'hx0).toNat = n at hbad hbx
          obtain ⟨q1, q2, q3, q4⟩ := frame_eq x (last 0 acc) n hx0 hne0 (by omega) (by omega)
          have HQ1 := hide q1
          have HQ4 := hide q4
          have hd2 : decide ((20 : Int) < (n : Int)) = false := by simp; omega
          have hd3 : decide ((x.size : Int) < (n : Int) + 3) = false := by simp; omega
          have hn20 : n ≤ 20 := by omega
          have hn3 : n + 3 ≤ x.size := by omega
          have HQ2 := hide q2
          have HAC := hide (strs_of_own hown)
          clear q1 q2 q4 hbad
          go_wp2_with fail
          refine (frame_ref _ (acc.map mk) (x.extract 1 (n + 1)) _ (unhide HAC) (by rw [List.length_map]; omega) (fun i hi => by
            rw [List.length_map] at hi
            rw [List.getD, List.getElem?_map, List.getElem?_eq_getElem hi]
            exact unhide HA _ (List.getElem_mem hi)) (by omega)).mono ?_
          rw [bs_mk]
          rintro e w1 ⟨rfl, hb1⟩
          have hown1 := own_below hown hb1 (Nat.le_refl _)
          have hbel1 := hbel.trans (hb1.mono hbel.size)
          have hsz1 := hbel1.size
          have hfd : (mk (frm (last 0 acc) (x.extract 1 (n + 1)).data.toList)).toList = frm (last 0 acc) (x.extract 1 (n + 1)).data.toList := by rw [ByteArray.toList_eq, mk_data]
          have HFD := hide hfd
          generalize mk (frm (last 0 acc) (x.extract 1 (n + 1)).data.toList) = FR at hfd HFD ⊢
          clear hown hbel hb1 HAC hfd
          rcases unhide HQ2 with he | he
          · have hq : ((x.extract 0 (n + 3)).toList == FR.toList) = true := by
              rw [unhide HFD, ByteArray.toList_eq, beq_iff_eq]
              exact (unhide HQ1).2 he
            have hN := (unhide HR).next (unhide HT) ha he
            obtain ⟨hE, hL⟩ := unhide HQ4 he
            have hxd : (x.extract 1 (n + 1)).data.toList.length = n := q3
            rw [hE, hL, hxd, ← last_snoc] at hN
            have HN := hide hN
            have HMS := hide (mk_self (x.extract 1 (n + 1)))
            have HXL := hide hxd
            clear hN hE hL hxd he
            go_wp2_with (at_builtin; go_must (refine wpList_append_own _ rfl (.tmp 48) (.tmp 53) 23 rfl w.heap.size 9 i0 (.string ⟨#[]⟩) 1 16 Tryd.underlying23 hi hz0 hz1 hz2 rfl (by decide) _ _ _ rfl (hown1.alloc _) ⟨w1.heap.size, 0, none⟩ 1 1 [.string (x.extract 1 (n + 1))] rfl rfl ?c1 ?c2 ?c3 ?c4 ?c5 ?_))
            case c1 => exact cell_one_new _ _ _
            case c2 => intro u hu; simp at hu; subst hu; rfl
            case c3 => unfold maxLen; omega
            case c4 => omega
            case c5 => simp; omega
            intro v3 w3 hown3 hgrow3 _
            have hbel3 : Below w.heap.size w w3 := (hbel1.alloc hsz1 _).grown hgrow3 (by simp; omega) (own_row_ge hown1)
            clear hgrow3 hown1 hbel1
            go_wp2
            go_roundw
            case rel =>
              refine ⟨acc ++ [(x.extract 1 (n + 1)).data.toList], x.extract (n + 3) x.size, by simp; omega, by simp; omega, ⟨?_, ?_⟩, rfl, ?_, hbel3⟩
              · have := unhide HN
                rw [Nat.add_comm 3 n, ← extract_mk_drop] at this
                exact this
              · intro e he
                rw [List.mem_append, List.mem_singleton] at he
                rcases he with he | rfl
                · exact unhide HA e he
                · rw [unhide HXL]; omega
              · rw [List.length_append, List.length_singleton, List.map_append, List.map_append, List.map_map, List.map_cons, List.map_nil, unhide HMS]
                exact hown3
            case measure => simp; omega
          · have hq : ((x.extract 0 (n + 3)).toList == FR.toList) = false := by
              rw [unhide HFD, ByteArray.toList_eq, beq_eq_false_iff_ne]
              intro h
              have := (unhide HQ1).1 h
              omega
            have hbd := (unhide HR).bad (unhide HT) ha (by rw [he]; decide)
            rw [he] at hbd
            have HF := hide hbd
            clear hbd he
            go_wp2
            go_ret3
            have hF := unhide HF
            rw [show s.data.toList.length = s.size from rfl] at hF
            rw [hF]
            exact ⟨_, rfl, hown1, hbel1⟩
    · have hx1 : x.data.toList = [] := List.eq_nil_of_length_eq_zero (by have : x.data.toList.length = x.size := rfl; omega)
      have hne : x.toList.isEmpty = true := by rw [ByteArray.toList_eq, hx1]; rfl
      have hR := unhide HR
      rw [hx1] at hR
      have HD := hide hR.done
      clear hR hx1
      go_wp2
      go_ret3
      have hF := unhide HD
      rw [show s.data.toList.length = s.size from rfl] at hF
      rw [hF]
      exact ⟨_, rfl, hown, hbel⟩

theorem rRead_any (s : ByteArray) (w : World) (hm : s.size ≤ maxLen) :
    Calls Tryd.prog 45 #[.string s] w fun e w' => ∃ v, e = .returned (.tuple #[v, .int .i64 (rdOld s.data.toList).2.1, .int .i64 (rdOld s.data.toList).2.2]) ∧
      w'.ownsRow w.heap.size 9 1 v (rdOld s.data.toList).1.length (((rdOld s.data.toList).1.map mk).map Value.string) ∧ Below w.heap.size w w' := by
  unfold rdOld
  by_cases h : 2300 < s.data.toList.length
  · rw [if_pos h]
    refine (rRead_long s w h hm).mono ?_
    rintro e w' ⟨rfl, rfl⟩
    exact ⟨_, rfl, World.ownsRow_nil _ _ _ _, Below.refl _ _⟩
  · rw [if_neg h]
    exact rRead_short s w (by have : s.data.toList.length = s.size := rfl; omega)
end Go.Proofs.YtanfolfopalbeabDoor
namespace Go.Proofs.YtanfolfopalbeabDoor
open Go.RowKit

/-- The end of a slice of strings. -/
theorem Strs.tailF {w : World} {b off cap n : Nat} {ss : List ByteArray} (h : Strs w (.slice (some ⟨b, off, none⟩) n cap) ss) (k : Nat) (hk : k ≤ n) : Strs w (.slice (if cap = k then some ⟨b, off, none⟩ else some ⟨b, off + k, none⟩) (n - k) (cap - k)) (ss.drop k) := by
  obtain ⟨ao, cap', he, h1, h2, h3⟩ := h
  simp only [Value.slice.injEq] at he
  obtain ⟨rfl, rfl, rfl⟩ := he
  have hl : (ss.drop k).length = ss.length - k := List.length_drop
  refine ⟨_, cap - k, by rw [hl], by omega, by omega, ?_⟩
  rcases h3 with rfl | ⟨b', off', he, hc⟩
  · simp
  · simp only [Option.some.injEq, Addr.mk.injEq, and_true] at he
    obtain ⟨rfl, rfl⟩ := he
    by_cases hc2 : cap = k
    · left
      exact List.eq_nil_of_length_eq_zero (by omega)
    · right
      rw [if_neg hc2]
      refine ⟨b, off + k, rfl, fun i hi => ?_⟩
      rw [Nat.add_assoc, hc (k + i) (by omega)]
      simp only [List.getD]
      rw [List.getElem?_drop]

set_option maxRecDepth 100000 in
set_option maxHeartbeats 800000 in
theorem rOldVerify_any (head before : Nat) (n i : Int) (entry : ByteArray) (v : Value) (rest : List ByteArray) (w : World) (hbf : before < 65536) (hn : -9223372036854775808 ≤ n ∧ n ≤ 9223372036854775807) (hi : -9223372036854775808 ≤ i ∧ i ≤ 9223372036854775807)
    (he : entry.size ≤ 140737488351232) (h : Strs w v rest) (hm : rest.length * 16 ≤ 140737488351232) (hz : ∀ i, i < rest.length → (rest.getD i ByteArray.empty).size ≤ 140737488351232) :
    Calls Tryd.prog 46 #[.int .u16 head, .int .i64 n, .int .i64 i, .string entry, .agg #[.int .u16 before, v]] w fun e w' => e = .returned (.bool (ovR head n i entry before rest)) ∧ Below w.heap.size w w' := by
  have hb0 : Below w.heap.size w (w.alloc (.cells #[.int .u16 (before : Int), v] 51)) := (Below.refl _ _).alloc (Nat.le_refl _) _
  have HS := hide (h.below hb0 (Nat.le_refl _))
  have HZ := hide hz
  have HB0 := hide hb0
  obtain ⟨ao, cap, rfl, hl1, hl2, _⟩ := h
  unfold maxLen at hl2
  clear hz hb0
  by_cases h1 : i < 0
  · have HP := hide (show ovR head n i entry before rest = false by unfold ovR; rw [if_pos (.inl h1)])
    rw [unhide HP]
    have hd : decide (i < 0) = true := by simp; omega
    go_enter Tryd.func46, Tryd.ntmps46
    go_wp2
    go_ret
    exact ⟨rfl, unhide HB0⟩
  have hd : decide (i < 0) = false := by simp; omega
  by_cases h2 : n ≤ i
  · have HP := hide (show ovR head n i entry before rest = false by unfold ovR; rw [if_pos (.inr (.inl h2))])
    rw [unhide HP]
    have hd2 : decide (n ≤ i) = true := by simp; omega
    go_enter Tryd.func46, Tryd.ntmps46
    go_wp2
    go_ret
    exact ⟨rfl, unhide HB0⟩
  have hd2 : decide (n ≤ i) = false := by simp; omega
  by_cases h3 : (rest.length : Int) = n - 1 - i
  · have HP := hide (show ovR head n i entry before rest = decide (last (lnk before entry.data.toList) (bs rest) = head) by unfold ovR; rw [if_neg (by omega)])
    rw [unhide HP]
    have hd3 : ((rest.length : Int) != n - 1 - i) = false := by rw [bne_eq_false_iff_eq]; exact h3
    have hlt := lnk_lt before entry.data.toList
    have HLK := hide (show wk (two before ++ entry.data.toList) = lnk before entry.data.toList from rfl)
    generalize lnk before entry.data.toList = l1 at hlt HP HLK ⊢
    have hll := fun wq hs => texts_any l1 (.slice ao rest.length cap) rest wq hs hlt hm (unhide HZ)
    generalize last l1 (bs rest) = l2 at hll HP ⊢
    have hde : ((l2 : Int) == (head : Int)) = decide (l2 = head) := by
      by_cases hq : l2 = head
      · subst hq; simp
      · rw [decide_eq_false hq, beq_eq_false_iff_ne]; omega
    have hz2 : (two before).length = 2 := rfl
    go_enter Tryd.func46, Tryd.ntmps46
    go_wp2_with fail
    refine (pair_any before _ hbf).mono ?_
    rintro e w1 ⟨rfl, hb1⟩
    have hbel1 := (unhide HB0).trans (hb1.mono (unhide HB0).size)
    have c1 : w1.cell? ⟨w.heap.size, 1, none⟩ = some (.slice ao rest.length cap) := by
      rw [hb1.cell (p := ⟨w.heap.size, 1, none⟩) (by simp)]
      simp
    have S1 := hide ((unhide HS).below hb1 (Nat.le_refl _))
    clear hb1 HS
    go_wp2_with fail
    refine (rOld_any _ _ (by unfold maxLen; rw [ByteArray.size_append, two_size]; omega)).mono ?_
    rw [show (ByteArray.mk (two before).toArray ++ entry).data.toList = two before ++ entry.data.toList by simp, unhide HLK]
    rintro e w2 ⟨rfl, rfl⟩
    go_wp2_with fail
    refine (hll _ (unhide S1)).mono ?_
    rintro e w2 ⟨v2, rfl, _, hb2⟩
    have hbel2 := hbel1.trans (hb2.mono hbel1.size)
    go_wp2
    go_ret
    exact ⟨rfl, hbel2⟩
  · have HP := hide (show ovR head n i entry before rest = false by unfold ovR; rw [if_pos (.inr (.inr h3))])
    rw [unhide HP]
    have hd3 : ((rest.length : Int) != n - 1 - i) = true := by rw [bne_iff_ne]; exact h3
    go_enter Tryd.func46, Tryd.ntmps46
    go_wp2
    go_ret
    exact ⟨rfl, unhide HB0⟩
end Go.Proofs.YtanfolfopalbeabDoor
namespace Go.Proofs.YtanfolfopalbeabDoor
open Go.RowKit

theorem coll_headsR {a b : Nat} {x y : List UInt8} (h : two a ++ x = two b ++ y) : y = x := by
  have := congrArg (List.drop 2) h
  rw [List.drop_left' (two_length a), List.drop_left' (two_length b)] at this
  exact this.symm
theorem own_cells1 {w : World} {B : Nat} {e : TypeId} {v : Value} {n : Nat} {ss : List ByteArray} (h : w.ownsRow B e 1 v n (ss.map Value.string)) (h0 : 0 < n) : ∃ g cap, v = .slice (some ⟨g, 0, none⟩) n cap ∧ g < w.heap.size ∧ ∀ i, i < n → w.cell? ⟨g, i, none⟩ = some (.string (ss.getD i ByteArray.empty)) := by
  have hl : ss.length = n := by have := h.1; rw [List.length_map, Nat.mul_one] at this; exact this
  obtain ⟨ao, cap, hv, _, _, h3⟩ := strs_of_own h
  rcases h.2 with ⟨_, h1⟩ | ⟨g, cap', cur, hv', _, hg, _⟩
  · omega
  · refine ⟨g, cap', hv', lt_of_block hg, fun i hi => ?_⟩
    rcases h3 with h3 | ⟨b, off, h3, hc⟩
    · rw [h3] at hl; simp at hl; omega
    · rw [hv] at hv'
      injection hv' with e1 e2 e3
      rw [h3] at e1
      injection e1 with e1
      injection e1 with e4 e5
      have := hc i (by omega)
      rw [e4, e5, Nat.zero_add] at this
      exact this
theorem cells_bel2 {w w' : World} {g k : Nat} {a b : Value} (h : w.cell? ⟨g, 0, none⟩ = some a ∧ w.cell? ⟨k, 1, none⟩ = some b) (hb : Below w.heap.size w w') : w'.cell? ⟨g, 0, none⟩ = some a ∧ w'.cell? ⟨k, 1, none⟩ = some b :=
  ⟨by rw [hb.cell (p := ⟨g, 0, none⟩) (cell_lt h.1)]; exact h.1, by rw [hb.cell (p := ⟨k, 1, none⟩) (cell_lt h.2)]; exact h.2⟩
theorem txts_size : ∀ (l : List (List UInt8)) (v m : Nat), (∀ e ∈ l, e.length ≤ m) → ∀ t ∈ txts v l, t.length ≤ m + 2 := by
  intro l
  induction l with
  | nil => intro v m _ t ht; cases ht
  | cons a r ih =>
    intro v m h t ht
    simp only [txts, List.mem_cons] at ht
    rcases ht with rfl | ht
    · have := h a (by simp)
      rw [List.length_append, two_length]
      omega
    · exact ih _ m (fun e he => h e (by simp [he])) t ht
theorem meet_step {A B : List (List UInt8)} {c : List UInt8 × List UInt8} {m k : Nat} (h : meet (A.drop m) (B.drop k) = some c) : ∃ x y, A[m]? = some x ∧ B[k]? = some y ∧ ((x ≠ y ∧ wk x = wk y ∧ c = (x, y)) ∨ ((x = y ∨ wk x ≠ wk y) ∧ meet (A.drop (m + 1)) (B.drop (k + 1)) = some c)) := by
  by_cases hm : m < A.length
  · by_cases hk : k < B.length
    · rw [List.drop_eq_getElem_cons hm, List.drop_eq_getElem_cons hk] at h
      simp only [meet] at h
      refine ⟨A[m], B[k], List.getElem?_eq_getElem hm, List.getElem?_eq_getElem hk, ?_⟩
      by_cases hc : A[m] ≠ B[k] ∧ wk A[m] = wk B[k]
      · rw [if_pos hc] at h
        exact .inl ⟨hc.1, hc.2, (Option.some.inj h).symm⟩
      · rw [if_neg hc] at h
        refine .inr ⟨?_, h⟩
        by_cases h1 : A[m] = B[k]
        · exact .inl h1
        · exact .inr (fun h2 => hc ⟨h1, h2⟩)
    · rw [List.drop_of_length_le (by omega : B.length ≤ k)] at h
      cases hA : A.drop m <;> rw [hA] at h <;> simp [meet] at h
  · rw [List.drop_of_length_le (by omega : A.length ≤ m)] at h
    simp [meet] at h
theorem cells_of_row {w : World} {g : Nat} {a b : Value} {t : TypeId} (h : w.heap[g]? = some (.cells #[a, b] t (0, 0))) : w.cell? ⟨g, 0, none⟩ = some a ∧ w.cell? ⟨g, 1, none⟩ = some b :=
  ⟨by rw [cell_of_row w g _ _ _ _ h]; rfl, by rw [cell_of_row w g _ _ _ _ h]; rfl⟩
theorem cells_bel {w w' : World} {g : Nat} {a b : Value} (h : w.cell? ⟨g, 0, none⟩ = some a ∧ w.cell? ⟨g, 1, none⟩ = some b) (hb : Below w.heap.size w w') : w'.cell? ⟨g, 0, none⟩ = some a ∧ w'.cell? ⟨g, 1, none⟩ = some b :=
  ⟨by rw [hb.cell (p := ⟨g, 0, none⟩) (cell_lt h.1)]; exact h.1, by rw [hb.cell (p := ⟨g, 1, none⟩) (cell_lt h.1)]; exact h.2⟩
theorem info_opl (a b : Value) : (Tryd.prog.info? 51).map (·.size) = some [a, b].length := info_opf
theorem four_blocks (w : World) (A B C E : Obj) : Below w.heap.size w ((((w.alloc A).alloc B).alloc C).alloc E) ∧ ((((w.alloc A).alloc B).alloc C).alloc E).heap[w.heap.size]? = some A ∧ ((((w.alloc A).alloc B).alloc C).alloc E).heap[w.heap.size + 1]? = some B ∧ ((((w.alloc A).alloc B).alloc C).alloc E).heap[w.heap.size + 2]? = some C ∧ ((((w.alloc A).alloc B).alloc C).alloc E).heap[w.heap.size + 3]? = some E ∧ ((((w.alloc A).alloc B).alloc C).alloc E).heap.size = w.heap.size + 4 := by
  have h := four_new w A B C E
  exact ⟨h.1, h.2.1, h.2.2.1, h.2.2.2.1, h.2.2.2.2, by simp⟩

set_option maxRecDepth 100000 in
set_option maxHeartbeats 1600000 in
theorem rTranslate_any (tb : List Nat) (ht : TabOk tb) (s : ByteArray) (i : Int) (entry : ByteArray) (before : Nat) (vr : Value) (rs : List ByteArray) (w : World) (hm : s.size ≤ maxLen) (hi : -9223372036854775808 ≤ i ∧ i ≤ 9223372036854775807) (he : entry.size ≤ 140737488351232) (hbf : before < 65536) (hr : Strs w vr rs) (hmr : rs.length * 16 ≤ 140737488351232) (hz : ∀ i, i < rs.length → (rs.getD i ByteArray.empty).size ≤ 140737488351232) :
    Calls Tryd.prog 24 #[.agg (ucells tb).toArray, .string s, .int .i64 i, .string entry, .agg #[.int .u16 before, vr]] w fun e w' => ∃ v', e = .returned (.tuple #[.agg #[v', .string (mk (trR s.data.toList i entry before rs).2.1), .string (mk (trR s.data.toList i entry before rs).2.2.1)], .int .i64 (trR s.data.toList i entry before rs).2.2.2]) ∧
      w'.ownsRow w.heap.size 64 32 v' (trR s.data.toList i entry before rs).1.length (dcells (trR s.data.toList i entry before rs).1) ∧ Below w.heap.size w w' := by
  have HR := hide (fun wq (hb : Below w.heap.size w wq) => hr.below hb (Nat.le_refl _))
  obtain ⟨aor, cpr, rfl, hr1, hr2, _⟩ := hr
  unfold maxLen at hr2
  obtain ⟨hb0, hg0, hp0, hr0, hn0, hz0⟩ := four_blocks w (.cells (ucells tb).toArray 38) (.cells #[.int .u16 (before : Int), .slice aor rs.length cpr] 51) (.cells #[.slice none 0 0, .string ⟨#[]⟩, .string ⟨#[]⟩] 60) (.cells #[.slice none 0 0, .string ⟨#[]⟩, .string ⟨#[]⟩] 60)
  have hrd := fun wq => rRead_any s wq hm
  obtain ⟨h100, hes, her, _⟩ := rdOldT_facts s.data.toList
  unfold trR
  generalize (rdOld s.data.toList).2.2 = nr at hrd
  generalize (rdOld s.data.toList).2.1 = er at hrd her ⊢
  generalize (rdOld s.data.toList).1 = es at hrd h100 hes ⊢
  have hml : (es.map mk).length = es.length := List.length_map ..
  obtain ⟨hi0, hi1⟩ := hi
  have VT := hide (v_tab tb ht.1)
  have HZ := hide hz
  have HES := hide hes
  have HB0 := hide hb0
  have HG0 := hide hg0
  have HP0 := hide hp0
  have HR0 := hide hr0
  have HN0 := hide hn0
  clear hz hes hb0 hg0 hp0 hr0 hn0
  by_cases h1 : er = 0
  · subst h1
    by_cases h2 : i < 0
    · have HP := hide (show trOf es 0 i entry before rs = ([], [], [], 5) by unfold trOf; rw [if_neg (by decide), if_pos (.inl h2)])
      rw [unhide HP]
      have hd : decide (i < 0) = true := by simp; omega
      go_enter Tryd.func24, Tryd.ntmps24
      go_upto_region 2 with fail
      generalize ((((w.alloc (.cells (ucells tb).toArray 38)).alloc (.cells #[.int .u16 (before : Int), .slice aor rs.length cpr] 51)).alloc (.cells #[.slice none 0 0, .string ⟨#[]⟩, .string ⟨#[]⟩] 60)).alloc (.cells #[.slice none 0 0, .string ⟨#[]⟩, .string ⟨#[]⟩] 60)) = W0 at HB0 HG0 HP0 HR0 HN0 hz0 ⊢
      go_wp2_with fail
      refine (hrd _).mono ?_
      rintro e w1 ⟨v1, rfl, hown1, hb1⟩
      rw [hz0] at hb1 hown1
      have hs1 := hb1.size
      obtain ⟨ao1, cp1, rfl⟩ := own_shape hown1
      have R9 := hide (show w1.heap[w.heap.size + 2]? = some (.cells #[.slice none 0 0, .string ⟨#[]⟩, .string ⟨#[]⟩] 60 (0, 0)) from (hb1.block _ (by omega)).trans (unhide HR0))
      have N9 := hide (show w1.heap[w.heap.size + 3]? = some (.cells #[.slice none 0 0, .string ⟨#[]⟩, .string ⟨#[]⟩] 60 (0, 0)) from (hb1.block _ (by omega)).trans (unhide HN0))
      have hbel9 := (unhide HB0).trans (hb1.mono (by omega))
      go_wp2_with (first | ((with_reducible refine at_store ?_); go_must (refine wpList_store_row rfl 60 _ _ rfl (w.heap.size + 2) _ rfl rfl 60 _ (unhide R9) info_car rfl (car_one _ _ _ _ _) ?_)) | ((with_reducible refine at_load ?_); refine wpList_load_row rfl 60 _ rfl (w.heap.size + 3) (by rfl) 60 #[.slice none 0 0, .string ⟨#[]⟩, .string ⟨#[]⟩] (0, 0) _ (unhide N9) Tryd.underlying60 rfl info_car ?_))
      refine bodyPost_ret (v := .tuple #[.agg #[.slice none 0 0, .string (mk []), .string (mk [])], .int .i64 5]) ?_ rfl ⟨_, rfl, World.ownsRow_nil _ _ _ _, below_rowO hbel9 (by omega) _⟩
      exact results_opf Tryd.results24 _ _ (w.heap.size + 2) 60 _ (0, 0) _ rfl (setRow_heap _ _ _ _ _ _ (unhide R9)) Tryd.underlying60 rfl info_car
    have hd : decide (i < 0) = false := by simp; omega
    by_cases h3 : (es.length : Int) ≤ i
    · have HP := hide (show trOf es 0 i entry before rs = ([], [], [], 5) by unfold trOf; rw [if_neg (by decide), if_pos (.inr h3)])
      rw [unhide HP]
      have hd2 : decide ((es.length : Int) ≤ i) = true := by simp; omega
      go_enter Tryd.func24, Tryd.ntmps24
      go_upto_region 2 with fail
      generalize ((((w.alloc (.cells (ucells tb).toArray 38)).alloc (.cells #[.int .u16 (before : Int), .slice aor rs.length cpr] 51)).alloc (.cells #[.slice none 0 0, .string ⟨#[]⟩, .string ⟨#[]⟩] 60)).alloc (.cells #[.slice none 0 0, .string ⟨#[]⟩, .string ⟨#[]⟩] 60)) = W0 at HB0 HG0 HP0 HR0 HN0 hz0 ⊢
      go_wp2_with fail
      refine (hrd _).mono ?_
      rintro e w1 ⟨v1, rfl, hown1, hb1⟩
      rw [hz0] at hb1 hown1
      have hs1 := hb1.size
      obtain ⟨ao1, cp1, rfl⟩ := own_shape hown1
      have R9 := hide (show w1.heap[w.heap.size + 2]? = some (.cells #[.slice none 0 0, .string ⟨#[]⟩, .string ⟨#[]⟩] 60 (0, 0)) from (hb1.block _ (by omega)).trans (unhide HR0))
      have N9 := hide (show w1.heap[w.heap.size + 3]? = some (.cells #[.slice none 0 0, .string ⟨#[]⟩, .string ⟨#[]⟩] 60 (0, 0)) from (hb1.block _ (by omega)).trans (unhide HN0))
      have hbel9 := (unhide HB0).trans (hb1.mono (by omega))
      go_wp2_with (first | ((with_reducible refine at_store ?_); go_must (refine wpList_store_row rfl 60 _ _ rfl (w.heap.size + 2) _ rfl rfl 60 _ (unhide R9) info_car rfl (car_one _ _ _ _ _) ?_)) | ((with_reducible refine at_load ?_); refine wpList_load_row rfl 60 _ rfl (w.heap.size + 3) (by rfl) 60 #[.slice none 0 0, .string ⟨#[]⟩, .string ⟨#[]⟩] (0, 0) _ (unhide N9) Tryd.underlying60 rfl info_car ?_))
      refine bodyPost_ret (v := .tuple #[.agg #[.slice none 0 0, .string (mk []), .string (mk [])], .int .i64 5]) ?_ rfl ⟨_, rfl, World.ownsRow_nil _ _ _ _, below_rowO hbel9 (by omega) _⟩
      exact results_opf Tryd.results24 _ _ (w.heap.size + 2) 60 _ (0, 0) _ rfl (setRow_heap _ _ _ _ _ _ (unhide R9)) Tryd.underlying60 rfl info_car
    have hd2 : decide ((es.length : Int) ≤ i) = false := by simp; omega
    obtain ⟨j, rfl⟩ : ∃ j : Nat, i = (j : Int) := ⟨i.toNat, by omega⟩
    have hj : j < es.length := by omega
    have hsz : ∀ k, k < (es.map mk).length → ((es.map mk).getD k ByteArray.empty).size ≤ 20 := fun k hk => by
      rw [hml] at hk
      rw [mk_getD es k hk, mk_size, List.getD_eq_getElem?_getD, List.getElem?_eq_getElem hk, Option.getD_some]
      exact unhide HES _ (List.getElem_mem hk)
    have HLL := hide (fun vq wq hs => head_any vq (es.map mk) wq hs (by rw [hml]; omega) (fun k hk => Nat.le_trans (hsz k hk) (by decide)))
    have hLL := last_lt es 0 (by decide)
    have hcv := fun (h : Nat) (wq : World) hs => rOldVerify_any h before (es.length : Int) (j : Int) entry (.slice aor rs.length cpr) rs wq hbf (by omega) (by omega) he hs hmr (unhide HZ)
    cases hov : ovR (last 0 es) es.length j entry before rs
    · have HP := hide (show trOf es 0 j entry before rs = ([], [], [], 10) by unfold trOf; rw [if_neg (by decide), if_neg (by omega), if_pos hov])
      rw [unhide HP]
      have hcv2 := fun wq hs => hcv (last 0 es) wq hs
      rw [hov] at hcv2
      have hll := fun vq wq hs => unhide HLL vq wq hs
      rw [bs_mk] at hll
      generalize last 0 es = L at hll hcv2 hLL
      clear hcv HLL hov hsz
      go_enter Tryd.func24, Tryd.ntmps24
      go_upto_region 2 with fail
      generalize ((((w.alloc (.cells (ucells tb).toArray 38)).alloc (.cells #[.int .u16 (before : Int), .slice aor rs.length cpr] 51)).alloc (.cells #[.slice none 0 0, .string ⟨#[]⟩, .string ⟨#[]⟩] 60)).alloc (.cells #[.slice none 0 0, .string ⟨#[]⟩, .string ⟨#[]⟩] 60)) = W0 at HB0 HG0 HP0 HR0 HN0 hz0 ⊢
      go_wp2_with fail
      refine (hrd _).mono ?_
      rintro e w1 ⟨v1, rfl, hown1, hb1⟩
      rw [hz0] at hb1 hown1
      have hs1 := hb1.size
      obtain ⟨ao1, cp1, rfl⟩ := own_shape hown1
      have S1 := hide (strs_of_own hown1)
      have S1d := hide ((strs_of_own hown1).below ((Below.refl w1.heap.size w1).drew) (Nat.le_refl _))
      have K1 := hide hb1
      have K1d := hide (((unhide HB0).trans (hb1.mono (by omega))).drew)
      have hr8 : w1.drew.cell? ⟨w.heap.size + 1, 0, none⟩ = some (.int .u16 (before : Int)) ∧ w1.drew.cell? ⟨w.heap.size + 1, 1, none⟩ = some (.slice aor rs.length cpr) := cells_of_row (w := w1) ((hb1.block _ (by omega)).trans (unhide HP0))
      have hu := Tryd.underlying51
      have hmi := info_opl (.int .u16 (before : Int)) (.slice aor rs.length cpr)
      clear hown1 hb1
      go_wp2_with fail
      go_region_held3 (fun w' => w'.cell? ⟨w.heap.size + 1, 0, none⟩ = some (.int .u16 (before : Int)) ∧ w'.cell? ⟨w.heap.size + 1, 1, none⟩ = some (.slice aor rs.length cpr)) (first | (with_reducible exact hr8) | (with_reducible exact hr9) | (with_reducible exact hr10)) (first | (go_at_call 47; refine (hll _ _ (unhide S1d)).mono ?_; rintro e w2 ⟨rfl, hb2⟩; have hr9 := cells_bel hr8 hb2) | (go_at_call 46; refine (hcv2 _ (unhide HR _ ((unhide K1d).trans (hb2.mono (unhide K1d).size)))).mono ?_; rintro e w3 ⟨rfl, hb3⟩; have hr10 := cells_bel hr9 hb3))
      have K2 := hide ((unhide K1).drew.trans (hb2.mono (show w.heap.size + 4 ≤ w1.heap.size by omega)))
      have hs2 := (unhide K2).size
      have K3 := hide ((unhide K2).trans (hb3.mono (by omega)))
      have hs3 := (unhide K3).size
      have S3 := hide (((unhide S1d).below hb2 (Nat.le_refl _)).below hb3 (Nat.le_refl _))
      clear hb2 hb3 hr8 hr9 hr10 S1 S1d K1 K1d K2 hll hcv2 hu hmi
      have R9 := hide (show w3.heap[w.heap.size + 2]? = some (.cells #[.slice none 0 0, .string ⟨#[]⟩, .string ⟨#[]⟩] 60 (0, 0)) from ((unhide K3).block _ (by omega)).trans (unhide HR0))
      have N9 := hide (show w3.heap[w.heap.size + 3]? = some (.cells #[.slice none 0 0, .string ⟨#[]⟩, .string ⟨#[]⟩] 60 (0, 0)) from ((unhide K3).block _ (by omega)).trans (unhide HN0))
      have hbel9 := (unhide HB0).trans ((unhide K3).mono (by omega))
      go_wp2_with (first | ((with_reducible refine at_store ?_); go_must (refine wpList_store_row rfl 60 _ _ rfl (w.heap.size + 2) _ rfl rfl 60 _ (unhide R9) info_car rfl (car_one _ _ _ _ _) ?_)) | ((with_reducible refine at_load ?_); refine wpList_load_row rfl 60 _ rfl (w.heap.size + 3) (by rfl) 60 #[.slice none 0 0, .string ⟨#[]⟩, .string ⟨#[]⟩] (0, 0) _ (unhide N9) Tryd.underlying60 rfl info_car ?_))
      refine bodyPost_ret (v := .tuple #[.agg #[.slice none 0 0, .string (mk []), .string (mk [])], .int .i64 10]) ?_ rfl ⟨_, rfl, World.ownsRow_nil _ _ _ _, below_rowO hbel9 (by omega) _⟩
      exact results_opf Tryd.results24 _ _ (w.heap.size + 2) 60 _ (0, 0) _ rfl (setRow_heap _ _ _ _ _ _ (unhide R9)) Tryd.underlying60 rfl info_car
    · obtain ⟨hrl, hla⟩ := ovR_length hov
      have hcv2 := fun wq hs => hcv (last 0 es) wq hs
      rw [hov] at hcv2
      have hll := fun vq wq hs => unhide HLL vq wq hs
      rw [bs_mk] at hll
      by_cases heq : es.getD j [] = entry.data.toList
      · have HP := hide (show trOf es 0 j entry before rs = (pathL (es.map mk) j, [], [], 0) by unfold trOf; rw [if_neg (by decide), if_neg (by omega), if_neg (by rw [hov]; decide), Int.toNat_natCast, if_pos heq])
        rw [unhide HP]
        have htp := fun vq wq hs => rway_any tb ht (es.map mk).length vq (es.map mk) j wq (Nat.le_refl _) (by rw [hml]; exact h100) (by rw [hml]; exact hj) (fun x hx => by
          obtain ⟨y, hy, rfl⟩ := List.mem_map.1 hx
          rw [mk_size]
          exact unhide HES y hy) hs
        have hmkE : mk (es.getD j []) = entry := by rw [heq, mk_self]
        have hmg := mk_getD es j hj
        rw [hmkE] at hmg
        have HMG := hide hmg
        generalize pathL (es.map mk) j = pth at htp
        generalize last 0 es = L at hll hcv2 hLL hla
        clear hcv HLL hov hsz hrl hla heq hmkE hmg
        go_enter Tryd.func24, Tryd.ntmps24
        go_upto_region 2 with fail
        generalize ((((w.alloc (.cells (ucells tb).toArray 38)).alloc (.cells #[.int .u16 (before : Int), .slice aor rs.length cpr] 51)).alloc (.cells #[.slice none 0 0, .string ⟨#[]⟩, .string ⟨#[]⟩] 60)).alloc (.cells #[.slice none 0 0, .string ⟨#[]⟩, .string ⟨#[]⟩] 60)) = W0 at HB0 HG0 HP0 HR0 HN0 hz0 ⊢
        go_wp2_with fail
        refine (hrd _).mono ?_
        rintro e w1 ⟨v1, rfl, hown1, hb1⟩
        rw [hz0] at hb1 hown1
        have hs1 := hb1.size
        obtain ⟨ao1, cp1, rfl⟩ := own_shape hown1
        have S1 := hide (strs_of_own hown1)
        have S1d := hide ((strs_of_own hown1).below ((Below.refl w1.heap.size w1).drew) (Nat.le_refl _))
        have K1 := hide hb1
        have K1d := hide (((unhide HB0).trans (hb1.mono (by omega))).drew)
        have hr8 : w1.drew.cell? ⟨w.heap.size + 1, 0, none⟩ = some (.int .u16 (before : Int)) ∧ w1.drew.cell? ⟨w.heap.size + 1, 1, none⟩ = some (.slice aor rs.length cpr) := cells_of_row (w := w1) ((hb1.block _ (by omega)).trans (unhide HP0))
        have hu := Tryd.underlying51
        have hmi := info_opl (.int .u16 (before : Int)) (.slice aor rs.length cpr)
        clear hown1 hb1
        go_wp2_with fail
        go_region_held3 (fun w' => w'.cell? ⟨w.heap.size + 1, 0, none⟩ = some (.int .u16 (before : Int)) ∧ w'.cell? ⟨w.heap.size + 1, 1, none⟩ = some (.slice aor rs.length cpr)) (first | (with_reducible exact hr8) | (with_reducible exact hr9) | (with_reducible exact hr10)) (first | (go_at_call 47; refine (hll _ _ (unhide S1d)).mono ?_; rintro e w2 ⟨rfl, hb2⟩; have hr9 := cells_bel hr8 hb2) | (go_at_call 46; refine (hcv2 _ (unhide HR _ ((unhide K1d).trans (hb2.mono (unhide K1d).size)))).mono ?_; rintro e w3 ⟨rfl, hb3⟩; have hr10 := cells_bel hr9 hb3))
        have K2 := hide ((unhide K1).drew.trans (hb2.mono (show w.heap.size + 4 ≤ w1.heap.size by omega)))
        have hs2 := (unhide K2).size
        have K3 := hide ((unhide K2).trans (hb3.mono (by omega)))
        have hs3 := (unhide K3).size
        have S3 := hide (((unhide S1d).below hb2 (Nat.le_refl _)).below hb3 (Nat.le_refl _))
        clear hb2 hb3 hr8 hr9 hr10 S1 S1d K1 K1d K2 hll hcv2 hu hmi
        have ce : ∃ b off, ao1 = some ⟨b, off, none⟩ ∧ w3.cell? ⟨b, off + j, none⟩ = some (.string entry) := by
          obtain ⟨ao', cp', hev, _, _, h3⟩ := unhide S3
          injection hev with hev1 hev2 hev3
          rcases h3 with h3 | ⟨b, off, h3, hcc⟩
          · rw [List.map_eq_nil_iff] at h3; subst h3; cases hj
          · refine ⟨b, off, hev1.trans h3, ?_⟩
            rw [hcc j (by rw [hml]; exact hj), unhide HMG]
        obtain ⟨b, off, rfl, ce⟩ := ce
        have hee : (entry.toList == entry.toList) = true := by simp
        have G3 := hide (((unhide K3).block _ (by omega)).trans (unhide HG0))
        go_wp2_with ((with_reducible refine at_load ?_); refine wpList_load_row rfl 38 _ rfl w.heap.size (by rfl) 38 (ucells tb).toArray (0, 0) _ (unhide G3) Tryd.underlying38 rfl (unhide VT) ?_)
        refine (htp _ _ (unhide S3)).mono ?_
        rintro e w4 ⟨v4, rfl, hown4, hb4⟩
        obtain ⟨ao4, cp4, rfl⟩ := own_shape hown4
        have O4 := hide (own_baseT hown4 (show w.heap.size ≤ w3.heap.size by omega))
        have hb4 := (unhide K3).trans (hb4.mono (by omega))
        have hne4 : ∀ k, (Value.slice ao4 pth.length cp4).ownBlock = some k → k ≠ w.heap.size + 2 := fun k hk => by have := (hown4.lt k hk).1; omega
        clear hown4
        have R9 := hide (show w4.heap[w.heap.size + 2]? = some (.cells #[.slice none 0 0, .string ⟨#[]⟩, .string ⟨#[]⟩] 60 (0, 0)) from (hb4.block _ (by omega)).trans (unhide HR0))
        have hbel9 := (unhide HB0).trans (hb4.mono (by omega))
        go_wp2_with ((with_reducible refine at_store ?_); go_must (refine wpList_store_row rfl 60 _ _ rfl (w.heap.size + 2) _ rfl rfl 60 _ (unhide R9) info_car rfl (car_one _ _ _ _ _) ?_))
        refine bodyPost_ret (v := .tuple #[.agg #[.slice ao4 pth.length cp4, .string (mk []), .string (mk [])], .int .i64 0]) ?_ rfl ⟨_, rfl, own_sameO (unhide O4) (fun k hk => setRow_other _ _ _ _ (hne4 k hk)), below_rowO hbel9 (by omega) _⟩
        exact results_opf Tryd.results24 _ _ (w.heap.size + 2) 60 _ (0, 0) _ rfl (setRow_heap _ _ _ _ _ _ (unhide R9)) Tryd.underlying60 rfl info_car
      · have HP := hide (show trOf es 0 j entry before rs = ([], (coll (bs rs) (es.drop (j + 1)) (two before ++ entry.data.toList) (two (last 0 (es.take j)) ++ es.getD j [])).1, (coll (bs rs) (es.drop (j + 1)) (two before ++ entry.data.toList) (two (last 0 (es.take j)) ++ es.getD j [])).2, 11) by unfold trOf; rw [if_neg (by decide), if_neg (by omega), if_neg (by rw [hov]; decide), Int.toNat_natCast, if_neg heq])
        rw [unhide HP]
        have hcut := last_cut es j 0 hj
        have htc := txts_cut es j 0 hj
        have hmt := (coll_meets (bs rs) (es.drop (j + 1)) (two before ++ entry.data.toList) (two (last 0 (es.take j)) ++ es.getD j []) (by rw [bs_length, List.length_drop]; omega) (fun h3 => heq (coll_headsR h3)) (hla.trans hcut)).2.2
        rw [show wk (two (last 0 (es.take j)) ++ es.getD j []) = lnk (last 0 (es.take j)) (es.getD j []) from rfl, ← htc] at hmt
        generalize coll (bs rs) (es.drop (j + 1)) (two before ++ entry.data.toList) (two (last 0 (es.take j)) ++ es.getD j []) = cc at hmt
        obtain ⟨c1, c2⟩ := cc
        simp only
        have hmg := mk_getD es j hj
        obtain ⟨ej, hej⟩ : ∃ ej, ej = mk (es.getD j []) := ⟨_, rfl⟩
        rw [← hej] at hmg
        have hee : (ej.toList == entry.toList) = false := by
          rw [beq_eq_false_iff_ne, hej, ByteArray.toList_eq, ByteArray.toList_eq, mk_data]
          exact heq
        have HMG := hide hmg
        have HMT := hide hmt
        have hx1 := fun vq wq hs => texts_any 0 vq (es.map mk) wq hs (by decide) (by rw [hml]; omega) (fun k hk => Nat.le_trans (hsz k hk) (by decide))
        rw [bs_mk, hml] at hx1
        have HX1 := hide hx1
        have htl := txts_length es 0
        have HTZ4 := hide (txts_size es 0 20 (unhide HES))
        generalize txts 0 es = RT at HX1 HMT htl HTZ4
        obtain ⟨lb, hlb⟩ : ∃ lb, lb = mk (two before ++ entry.data.toList) := ⟨_, rfl⟩
        have hlbz : lb.size = 2 + entry.size := by rw [hlb, mk_size, List.length_append, two_length]; rfl
        have hlbd : lb.data.toList = two before ++ entry.data.toList := by rw [hlb, mk_data]
        have hx2 := fun vq wq hs => texts_any before vq [entry] wq hs hbf (by simp) (fun k hk => by
          have hk0 : k = 0 := by simpa using hk
          subst hk0
          exact he)
        rw [show (txts before (bs [entry])).map mk = [lb] by rw [hlb]; rfl] at hx2
        have HX2 := hide hx2
        have hol := fun wq => rOld_any lb wq (by unfold maxLen; omega)
        have hl1 := wk_lt lb.data.toList
        rw [← hlbd] at HMT
        generalize wk lb.data.toList = l1 at hol hl1 HMT
        have HX3 := hide (fun wq hs => texts_any l1 (.slice aor rs.length cpr) rs wq hs hl1 hmr (unhide HZ))
        have htl3 := txts_length (bs rs) l1
        rw [bs_length] at htl3
        have HTZ := hide (txts_size (bs rs) l1 140737488351232 (fun e he => by
          obtain ⟨x, hx, rfl⟩ := List.mem_map.1 he
          obtain ⟨q, hq, e⟩ := List.mem_iff_getElem.1 hx
          have := unhide HZ q hq
          rw [List.getD_eq_getElem?_getD, List.getElem?_eq_getElem hq, Option.getD_some, e] at this
          exact this))
        generalize txts l1 (bs rs) = RS at HX3 HMT htl3 HTZ
        have hlbz2 : lb.size ≤ 140737488351234 := by omega
        have HLB := hide hlb
        clear hlb hlbd hlbz hx2
        generalize last 0 es = L at hll hcv2 hLL hla
        clear hcv HLL hov hrl hla heq hej hmg hcut htc hmt hx1
        go_enter Tryd.func24, Tryd.ntmps24
        go_upto_region 2 with fail
        generalize ((((w.alloc (.cells (ucells tb).toArray 38)).alloc (.cells #[.int .u16 (before : Int), .slice aor rs.length cpr] 51)).alloc (.cells #[.slice none 0 0, .string ⟨#[]⟩, .string ⟨#[]⟩] 60)).alloc (.cells #[.slice none 0 0, .string ⟨#[]⟩, .string ⟨#[]⟩] 60)) = W0 at HB0 HG0 HP0 HR0 HN0 hz0 ⊢
        go_wp2_with fail
        refine (hrd _).mono ?_
        rintro e w1 ⟨v1, rfl, hown1, hb1⟩
        rw [hz0] at hb1 hown1
        have hs1 := hb1.size
        obtain ⟨ao1, cp1, rfl⟩ := own_shape hown1
        have S1 := hide (strs_of_own hown1)
        have S1d := hide ((strs_of_own hown1).below ((Below.refl w1.heap.size w1).drew) (Nat.le_refl _))
        have K1 := hide hb1
        have K1d := hide (((unhide HB0).trans (hb1.mono (by omega))).drew)
        have hr8 : w1.drew.cell? ⟨w.heap.size + 1, 0, none⟩ = some (.int .u16 (before : Int)) ∧ w1.drew.cell? ⟨w.heap.size + 1, 1, none⟩ = some (.slice aor rs.length cpr) := cells_of_row (w := w1) ((hb1.block _ (by omega)).trans (unhide HP0))
        have hu := Tryd.underlying51
        have hmi := info_opl (.int .u16 (before : Int)) (.slice aor rs.length cpr)
        clear hown1 hb1
        go_wp2_with fail
        go_region_held3 (fun w' => w'.cell? ⟨w.heap.size + 1, 0, none⟩ = some (.int .u16 (before : Int)) ∧ w'.cell? ⟨w.heap.size + 1, 1, none⟩ = some (.slice aor rs.length cpr)) (first | (with_reducible exact hr8) | (with_reducible exact hr9) | (with_reducible exact hr10)) (first | (go_at_call 47; refine (hll _ _ (unhide S1d)).mono ?_; rintro e w2 ⟨rfl, hb2⟩; have hr9 := cells_bel hr8 hb2) | (go_at_call 46; refine (hcv2 _ (unhide HR _ ((unhide K1d).trans (hb2.mono (unhide K1d).size)))).mono ?_; rintro e w3 ⟨rfl, hb3⟩; have hr10 := cells_bel hr9 hb3))
        have K2 := hide ((unhide K1).drew.trans (hb2.mono (show w.heap.size + 4 ≤ w1.heap.size by omega)))
        have hs2 := (unhide K2).size
        have K3 := hide ((unhide K2).trans (hb3.mono (by omega)))
        have hs3 := (unhide K3).size
        have S3 := hide (((unhide S1d).below hb2 (Nat.le_refl _)).below hb3 (Nat.le_refl _))
        clear hb2 hb3 hr8 hr9 hr10 S1 S1d K1 K1d K2 hll hcv2 hu hmi
        have ce : ∃ b off, ao1 = some ⟨b, off, none⟩ ∧ w3.cell? ⟨b, off + j, none⟩ = some (.string ej) := by
          obtain ⟨ao', cp', hev, _, _, h3⟩ := unhide S3
          injection hev with hev1 hev2 hev3
          rcases h3 with h3 | ⟨b, off, h3, hcc⟩
          · rw [List.map_eq_nil_iff] at h3; subst h3; cases hj
          · refine ⟨b, off, hev1.trans h3, ?_⟩
            rw [hcc j (by rw [hml]; exact hj), unhide HMG]
        obtain ⟨b, off, rfl, ce⟩ := ce
        have c30 := (cells_of_row (((unhide K3).block _ (by omega)).trans (unhide HP0))).1
        have hx1 := unhide HX1
        rw [Int.natCast_zero] at hx1
        go_wp2_with fail
        refine (hx1 _ _ (unhide S3)).mono ?_
        rintro e w4 ⟨v4, rfl, hown4, hb4⟩
        obtain ⟨g4, cp4, rfl, hg4, hc4⟩ := own_cells1 hown4 (by omega)
        have K4 := hide ((unhide K3).trans (hb4.mono (by omega)))
        have hs4 := (unhide K4).size
        have C4 := hide hc4
        have c40 := cells_of_row (((unhide K4).block _ (by omega)).trans (unhide HP0))
        have c400 := c40.1
        clear hb4 hown4 hc4 hx1 S3 c30 ce HMG
        have hb5 : Below w4.heap.size w4 (w4.alloc (.cells #[.string entry] 9)) := (Below.refl _ _).alloc (Nat.le_refl _) _
        have S5 := hide (show Strs (w4.alloc (.cells #[.string entry] 9)) (.slice (some ⟨w4.heap.size, 0, none⟩) 1 1) [entry] from ⟨_, 1, rfl, Nat.le_refl _, by unfold maxLen; omega, .inr ⟨_, 0, rfl, fun k hk => by
          have hk0 : k = 0 := by simpa using hk
          subst hk0
          exact World.cell?_alloc_mark w4 _ _ _ _⟩⟩)
        go_wp2_with fail
        refine (unhide HX2 _ _ (unhide S5)).mono ?_
        rintro e w5 ⟨v5, rfl, hown5, hb6⟩
        obtain ⟨g5, cp5, rfl, hg5, hc5⟩ := own_cells1 hown5 (by simp)
        have K45 := hide (hb5.trans (hb6.mono (by simp)))
        have K5 := hide ((unhide K4).trans ((unhide K45).mono (by omega)))
        have hs5 := (unhide K5).size
        have c50 := hc5 0 (by simp)
        have c51 := (cells_of_row (((unhide K5).block _ (by omega)).trans (unhide HP0))).2
        have hr8 : w5.drew.cell? ⟨g5, 0, none⟩ = some (.string lb) ∧ w5.drew.cell? ⟨w.heap.size + 1, 1, none⟩ = some (.slice aor rs.length cpr) := ⟨c50, c51⟩
        have KD5 := hide (((unhide HB0).trans ((unhide K5).mono (by omega))).drew)
        have hlen1 : ([entry] : List ByteArray).length = 1 := rfl
        clear hb5 hb6 hown5 S5 c40 c400 hc5 K4 c50 c51
        go_wp2_with fail
        go_region_held3 (fun w' => w'.cell? ⟨g5, 0, none⟩ = some (.string lb) ∧ w'.cell? ⟨w.heap.size + 1, 1, none⟩ = some (.slice aor rs.length cpr)) (first | (with_reducible exact hr8) | (with_reducible exact hr9)) (first | (go_at_call 50; refine (hol _).mono ?_; rintro e wz ⟨rfl, hez⟩; have hez2 := hez.symm; clear hez; subst hez2) | (go_at_call 49; refine (unhide HX3 _ (unhide HR _ (unhide KD5))).mono ?_; rintro e w7 ⟨v7, rfl, hown7, hb7⟩; have hr9 := cells_bel2 hr8 hb7))
        have K7 := hide ((unhide K5).drew.trans (hb7.mono (show w.heap.size + 4 ≤ w5.heap.size by omega)))
        have hs7 := (unhide K7).size
        have K47 : Below w4.heap.size w4 w7 := (unhide K45).drew.trans (hb7.mono (show w4.heap.size ≤ w5.heap.size from (unhide K45).size))
        have C7 := hide (show ∀ q, q < es.length → w7.cell? ⟨g4, q, none⟩ = some (.string ((RT.map mk).getD q ByteArray.empty)) from fun q hq => by rw [K47.cell (p := ⟨g4, q, none⟩) hg4]; exact unhide C4 q hq)
        have c7l := hr9.1
        have O7 := hide hown7
        obtain ⟨ao7, cp7, rfl⟩ := own_shape hown7
        clear K47 C4 K45 K5 KD5 hr8 hr9 hb7 hown7 hol HX1 HX2 HX3
        go_wp2_with fail
        go_loopw [24] (fun vj wr => ∃ m : Nat, vj = .int .i64 ((j + m : Nat) : Int) ∧ j + m ≤ es.length ∧ meet ((lb.data.toList :: RS).drop m) (RT.drop (j + m)) = some (c1, c2) ∧ Below w7.heap.size w7 wr) (fun vj _ => es.length - (intOf vj).toNat)
        case atStart => exact ⟨0, rfl, by omega, unhide HMT, Below.refl _ _⟩
        case round =>
          obtain ⟨m, rfl, hjm, hmm, hbel⟩ := hrel
          obtain ⟨x, y, hx, hy, hst⟩ := meet_step hmm
          have hjl : j + m < es.length := by rw [← htl]; exact (List.getElem?_eq_some_iff.1 hy).1
          have hdj : decide (((j + m : Nat) : Int) < (es.length : Int)) = true := by simp; omega
          obtain ⟨Y, hYe⟩ : ∃ Y, Y = mk y := ⟨_, rfl⟩
          have HYD := hide (show Y.data.toList = y by rw [hYe, mk_data])
          have hcy : wr.cell? ⟨g4, j + m, none⟩ = some (.string Y) := by
            have := unhide C7 (j + m) hjl
            rw [hbel.cell (p := ⟨g4, j + m, none⟩) (cell_lt this), this, List.getD_eq_getElem?_getD, List.getElem?_map, hy, hYe]
            rfl
          have hyz := unhide HTZ4 y (List.mem_of_getElem? hy)
          have hYz : Y.size ≤ 22 := by rw [hYe, mk_size]; exact hyz
          have ho2 := fun wq => rOld_any Y wq (by unfold maxLen; omega)
          have hcl : wr.cell? ⟨g5, 0, none⟩ = some (.string lb) := by rw [hbel.cell (p := ⟨g5, 0, none⟩) (cell_lt c7l)]; exact c7l
          have KR := hide ((unhide K7).trans (hbel.mono (show w.heap.size + 4 ≤ w7.heap.size by omega)))
          have hsr := (unhide KR).size
          clear hYe hmm hyz
          cases m with
          | zero =>
            have HXD := hide (show lb.data.toList = x by simpa using hx)
            have ho1 := fun wq => rOld_any lb wq (by unfold maxLen; omega)
            simp only [Nat.add_zero] at hjm hst hy hjl hdj hcy ⊢
            have fj1 : (j : Int) < (es.length : Int) := by omega
            have fj0 : (0 : Int) ≤ (j : Int) := by omega
            clear hx
            rcases hst with ⟨hne, hwe, hce⟩ | ⟨hno, hnx⟩
            · have hxy : (lb.toList == Y.toList) = false := by
                rw [beq_eq_false_iff_ne, ByteArray.toList_eq, ByteArray.toList_eq, unhide HXD, unhide HYD]
                exact hne
              have hqq : (((wk lb.data.toList : Nat) : Int) == ((wk Y.data.toList : Nat) : Int)) = true := by rw [beq_iff_eq, unhide HXD, unhide HYD, hwe]
              have HCE := hide (show lb = mk c1 ∧ Y = mk c2 by
                injection hce with e1 e2
                rw [e1, e2, ← unhide HXD, ← unhide HYD]
                exact ⟨rfl, rfl⟩)
              have R9 := hide (fun n => show (wr.drewN n).heap[w.heap.size + 2]? = some (.cells #[.slice none 0 0, .string ⟨#[]⟩, .string ⟨#[]⟩] 60 (0, 0)) from ((unhide KR).block _ (by omega)).trans (unhide HR0))
              have hcyN := fun n => show (wr.drewN n).cell? ⟨g4, j, none⟩ = some (.string Y) from hcy
              have hbel9 := hide (fun n => show Below w.heap.size w (wr.drewN n) from below_drewN ((unhide HB0).trans ((unhide KR).mono (by omega))) n)
              generalize wk lb.data.toList = q1 at ho1 hqq
              generalize wk Y.data.toList = q2 at ho2 hqq
              clear hne hwe hce
              go_wp2_with fail
              go_quiet ((go_at_call 50; first | (with_reducible exact Calls.quiet_of_same (ho1 _)) | (with_reducible exact Calls.quiet_of_same (ho2 _))))
              go_wp2_with ((with_reducible refine at_store ?_); go_must (refine wpList_store_row rfl 60 _ _ rfl (w.heap.size + 2) _ rfl rfl 60 _ (unhide R9 _) info_car rfl (car_one _ _ _ _ _) ?_))
              obtain ⟨e1, e2⟩ := unhide HCE
              refine bodyPost_ret (v := .tuple #[.agg #[.slice none 0 0, .string lb, .string Y], .int .i64 11]) ?_ rfl ⟨.slice none 0 0, by rw [e1, e2]; rfl, World.ownsRow_nil _ _ _ _, below_rowO (unhide hbel9 _) (by omega) _⟩
              exact results_opf Tryd.results24 _ _ (w.heap.size + 2) 60 _ (0, 0) _ rfl (setRow_heap _ _ _ _ _ _ (unhide R9 _)) Tryd.underlying60 rfl info_car
            · have HNX := hide hnx
              clear hnx
              by_cases hxe : x = y
              · have hxy : (lb.toList == Y.toList) = true := by rw [beq_iff_eq, ByteArray.toList_eq, ByteArray.toList_eq, unhide HXD, unhide HYD, hxe]
                clear hno hxe
                go_wp2_with fail
                go_quiet (fail)
                go_wp2
                exact ⟨⟨0 + 1, by go_num, by omega, unhide HNX, below_drewN hbel _⟩, by simp [intOf]; omega⟩
              · have hxy : (lb.toList == Y.toList) = false := by
                  rw [beq_eq_false_iff_ne, ByteArray.toList_eq, ByteArray.toList_eq, unhide HXD, unhide HYD]
                  exact hxe
                have hqq : (((wk lb.data.toList : Nat) : Int) == ((wk Y.data.toList : Nat) : Int)) = false := by
                  rw [beq_eq_false_iff_ne, unhide HXD, unhide HYD]
                  rcases hno with h | h
                  · exact absurd h hxe
                  · omega
                generalize wk lb.data.toList = q1 at ho1 hqq
                generalize wk Y.data.toList = q2 at ho2 hqq
                clear hno hxe
                go_wp2_with fail
                go_quiet ((go_at_call 50; first | (with_reducible exact Calls.quiet_of_same (ho1 _)) | (with_reducible exact Calls.quiet_of_same (ho2 _))))
                go_wp2
                exact ⟨⟨0 + 1, by go_num, by omega, unhide HNX, below_drewN hbel _⟩, by simp [intOf]; omega⟩
          | succ m' =>
            have hxs : RS[m']? = some x := by simpa using hx
            have hml' : m' < rs.length := by rw [← htl3]; exact (List.getElem?_eq_some_iff.1 hxs).1
            obtain ⟨g7, cq7, hv7, hg7, hc7⟩ := own_cells1 (unhide O7) (by omega)
            injection hv7 with hv71 hv72 hv73
            subst hv71 hv73
            obtain ⟨X, hXe⟩ : ∃ X, X = mk x := ⟨_, rfl⟩
            have HXD := hide (show X.data.toList = x by rw [hXe, mk_data])
            have hcx : wr.cell? ⟨g7, m', none⟩ = some (.string X) := by
              have := hc7 m' hml'
              rw [hbel.cell (p := ⟨g7, m', none⟩) (cell_lt this), this, List.getD_eq_getElem?_getD, List.getElem?_map, hxs, hXe]
              rfl
            have hxz := unhide HTZ x (List.mem_of_getElem? hxs)
            have hXz : X.size ≤ 140737488351234 := by rw [hXe, mk_size]; exact hxz
            have ho1 := fun wq => rOld_any X wq (by unfold maxLen; omega)
            have fj1 : (j : Int) + ((m' : Int) + 1) < (es.length : Int) := by omega
            have fj0 : (0 : Int) ≤ (j : Int) + ((m' : Int) + 1) := by omega
            have fgt : (j : Int) < (j : Int) + ((m' : Int) + 1) := by omega
            have fm1 : (m' : Int) < (rs.length : Int) := by omega
            have fm0 : (0 : Int) ≤ (m' : Int) := by omega
            have fmx : (j : Int) + ((m' : Int) + 1) - (j : Int) - 1 = (m' : Int) := by omega
            clear hXe hxz hx hxs hc7 hv72
            rcases hst with ⟨hne, hwe, hce⟩ | ⟨hno, hnx⟩
            · have hxy : (X.toList == Y.toList) = false := by
                rw [beq_eq_false_iff_ne, ByteArray.toList_eq, ByteArray.toList_eq, unhide HXD, unhide HYD]
                exact hne
              have hqq : (((wk X.data.toList : Nat) : Int) == ((wk Y.data.toList : Nat) : Int)) = true := by rw [beq_iff_eq, unhide HXD, unhide HYD, hwe]
              have HCE := hide (show X = mk c1 ∧ Y = mk c2 by
                injection hce with e1 e2
                rw [e1, e2, ← unhide HXD, ← unhide HYD]
                exact ⟨rfl, rfl⟩)
              have R9 := hide (fun n => show (wr.drewN n).heap[w.heap.size + 2]? = some (.cells #[.slice none 0 0, .string ⟨#[]⟩, .string ⟨#[]⟩] 60 (0, 0)) from ((unhide KR).block _ (by omega)).trans (unhide HR0))
              have hcyN := fun n => show (wr.drewN n).cell? ⟨g4, j + (m' + 1), none⟩ = some (.string Y) from hcy
              have hbel9 := hide (fun n => show Below w.heap.size w (wr.drewN n) from below_drewN ((unhide HB0).trans ((unhide KR).mono (by omega))) n)
              generalize wk X.data.toList = q1 at ho1 hqq
              generalize wk Y.data.toList = q2 at ho2 hqq
              clear hne hwe hce
              go_wp2_with fail
              go_quiet ((go_at_call 50; first | (with_reducible exact Calls.quiet_of_same (ho1 _)) | (with_reducible exact Calls.quiet_of_same (ho2 _))))
              go_wp2_with ((with_reducible refine at_store ?_); go_must (refine wpList_store_row rfl 60 _ _ rfl (w.heap.size + 2) _ rfl rfl 60 _ (unhide R9 _) info_car rfl (car_one _ _ _ _ _) ?_))
              obtain ⟨e1, e2⟩ := unhide HCE
              refine bodyPost_ret (v := .tuple #[.agg #[.slice none 0 0, .string X, .string Y], .int .i64 11]) ?_ rfl ⟨.slice none 0 0, by rw [e1, e2]; rfl, World.ownsRow_nil _ _ _ _, below_rowO (unhide hbel9 _) (by omega) _⟩
              exact results_opf Tryd.results24 _ _ (w.heap.size + 2) 60 _ (0, 0) _ rfl (setRow_heap _ _ _ _ _ _ (unhide R9 _)) Tryd.underlying60 rfl info_car
            · have HNX := hide hnx
              clear hnx
              by_cases hxe : x = y
              · have hxy : (X.toList == Y.toList) = true := by rw [beq_iff_eq, ByteArray.toList_eq, ByteArray.toList_eq, unhide HXD, unhide HYD, hxe]
                clear hno hxe
                go_wp2_with fail
                go_quiet (fail)
                go_wp2
                exact ⟨⟨m' + 1 + 1, by go_num, by omega, unhide HNX, below_drewN hbel _⟩, by simp [intOf]; omega⟩
              · have hxy : (X.toList == Y.toList) = false := by
                  rw [beq_eq_false_iff_ne, ByteArray.toList_eq, ByteArray.toList_eq, unhide HXD, unhide HYD]
                  exact hxe
                have hqq : (((wk X.data.toList : Nat) : Int) == ((wk Y.data.toList : Nat) : Int)) = false := by
                  rw [beq_eq_false_iff_ne, unhide HXD, unhide HYD]
                  rcases hno with h | h
                  · exact absurd h hxe
                  · omega
                generalize wk X.data.toList = q1 at ho1 hqq
                generalize wk Y.data.toList = q2 at ho2 hqq
                clear hno hxe
                go_wp2_with fail
                go_quiet ((go_at_call 50; first | (with_reducible exact Calls.quiet_of_same (ho1 _)) | (with_reducible exact Calls.quiet_of_same (ho2 _))))
                go_wp2
                exact ⟨⟨m' + 1 + 1, by go_num, by omega, unhide HNX, below_drewN hbel _⟩, by simp [intOf]; omega⟩
  · have HP := hide (show trOf es er i entry before rs = ([], [], [], er) by unfold trOf; rw [if_pos h1])
    rw [unhide HP]
    have hne : ((er : Int) != 0) = true := by rw [bne_iff_ne]; omega
    go_enter Tryd.func24, Tryd.ntmps24
    go_upto_region 2 with fail
    generalize ((((w.alloc (.cells (ucells tb).toArray 38)).alloc (.cells #[.int .u16 (before : Int), .slice aor rs.length cpr] 51)).alloc (.cells #[.slice none 0 0, .string ⟨#[]⟩, .string ⟨#[]⟩] 60)).alloc (.cells #[.slice none 0 0, .string ⟨#[]⟩, .string ⟨#[]⟩] 60)) = W0 at HB0 HG0 HP0 HR0 HN0 hz0 ⊢
    go_wp2_with fail
    refine (hrd _).mono ?_
    rintro e w1 ⟨v1, rfl, hown1, hb1⟩
    rw [hz0] at hb1 hown1
    have hs1 := hb1.size
    obtain ⟨ao1, cp1, rfl⟩ := own_shape hown1
    have R9 := hide (show w1.heap[w.heap.size + 2]? = some (.cells #[.slice none 0 0, .string ⟨#[]⟩, .string ⟨#[]⟩] 60 (0, 0)) from (hb1.block _ (by omega)).trans (unhide HR0))
    have N9 := hide (show w1.heap[w.heap.size + 3]? = some (.cells #[.slice none 0 0, .string ⟨#[]⟩, .string ⟨#[]⟩] 60 (0, 0)) from (hb1.block _ (by omega)).trans (unhide HN0))
    have hbel9 := (unhide HB0).trans (hb1.mono (by omega))
    go_wp2_with (first | ((with_reducible refine at_store ?_); go_must (refine wpList_store_row rfl 60 _ _ rfl (w.heap.size + 2) _ rfl rfl 60 _ (unhide R9) info_car rfl (car_one _ _ _ _ _) ?_)) | ((with_reducible refine at_load ?_); refine wpList_load_row rfl 60 _ rfl (w.heap.size + 3) (by rfl) 60 #[.slice none 0 0, .string ⟨#[]⟩, .string ⟨#[]⟩] (0, 0) _ (unhide N9) Tryd.underlying60 rfl info_car ?_))
    refine bodyPost_ret (v := .tuple #[.agg #[.slice none 0 0, .string (mk []), .string (mk [])], .int .i64 er]) ?_ rfl ⟨_, rfl, World.ownsRow_nil _ _ _ _, below_rowO hbel9 (by omega) _⟩
    exact results_opf Tryd.results24 _ _ (w.heap.size + 2) 60 _ (0, 0) _ rfl (setRow_heap _ _ _ _ _ _ (unhide R9)) Tryd.underlying60 rfl info_car
end Go.Proofs.YtanfolfopalbeabDoor
namespace Go.Proofs.YtanfolfopalbeabDoor
open Go.RowKit

theorem car_new (w : World) (cs cs' : Array Value) (t : TypeId) : Below w.heap.size w ((w.alloc (.cells cs t)).setRow w.heap.size cs') ∧ ((w.alloc (.cells cs t)).setRow w.heap.size cs').heap[w.heap.size]? = some (.cells cs' t (0, 0)) ∧ ((w.alloc (.cells cs t)).setRow w.heap.size cs').heap.size = w.heap.size + 1 :=
  ⟨below_rowO ((Below.refl _ _).alloc (Nat.le_refl _) _) (Nat.le_refl _) _, setRow_heap _ _ _ _ _ _ (heap_alloc_new w _), by simp [World.setRow]⟩
theorem cells_car {w : World} {g : Nat} {a b c : Value} (h : w.heap[g]? = some (.cells #[a, b, c] 60 (0, 0))) : w.cell? ⟨g, 0, none⟩ = some a ∧ w.cell? ⟨g, 1, none⟩ = some b ∧ w.cell? ⟨g, 2, none⟩ = some c :=
  ⟨by rw [cell_of_row w g _ _ _ _ h]; rfl, by rw [cell_of_row w g _ _ _ _ h]; rfl, by rw [cell_of_row w g _ _ _ _ h]; rfl⟩
theorem trR_path (l : List UInt8) (i : Int) (entry : ByteArray) (before : Nat) (rs : List ByteArray) : (trR l i entry before rs).1.length ≤ 100 ∧ ∀ d ∈ (trR l i entry before rs).1, d.length = 32 := by
  obtain ⟨h100, hes, _, _⟩ := rdOldT_facts l
  unfold trR trOf
  split
  · exact ⟨by simp, by simp⟩
  · split
    · exact ⟨by simp, by simp⟩
    · split
      · exact ⟨by simp, by simp⟩
      · split
        · rename_i h1 h2 h3 h4
          have hl : ((rdOld l).1.map mk).length = (rdOld l).1.length := List.length_map ..
          refine ⟨?_, pathL_elem ((rdOld l).1.map mk).length ((rdOld l).1.map mk) i.toNat (Nat.le_refl _)⟩
          have := pathL_length ((rdOld l).1.map mk).length ((rdOld l).1.map mk) i.toNat (Nat.le_refl _) (by rw [hl]; omega)
          rw [this]
          have := path_small 7 ((rdOld l).1.map mk).length i.toNat (by rw [hl]; omega)
          omega
        · exact ⟨by simp, by simp⟩

set_option maxRecDepth 100000 in
set_option maxHeartbeats 1600000 in
theorem btr_any (P : Nat → Prop) (B G : Nat) (b : Bk) (w0 w : World) (recs : List (Value × List UInt8)) (tb : List Nat) (ht : TabOk tb) (s : ByteArray) (i : Int) (entry : ByteArray) (before : Nat) (vr : Value) (rs : List ByteArray) (S : BkD P B w0 w G b recs) (hm : s.size ≤ maxLen) (hi : -9223372036854775808 ≤ i ∧ i ≤ 9223372036854775807) (he : entry.size ≤ 140737488351232) (hbf : before < 65536)
    (hs : Strs w vr rs) (hmr : rs.length * 16 ≤ 140737488351232) (hz : ∀ i, i < rs.length → (rs.getD i ByteArray.empty).size ≤ 140737488351232) (hT : Tabs w) (hb : b.n ≤ 900) (hrl : recs.length ≤ 900) :
    Calls Tryd.prog 7 #[.pointer (some ⟨G, 0, none⟩), .agg (ucells tb).toArray, .string s, .int .i64 i, .string entry, .int .u16 before, vr] w fun e w' => e = .returned (.bool true) ∧ ∃ b' recs', BkD P B w0 w' G b' recs' ∧ b'.n = b.n + 1 ∧ recs'.length = recs.length + 4 ∧ b'.tv = b.tv ∧ b'.kv = b.kv ∧ b'.pv = b.pv := by
  have HS := hide S
  have hG := S.bk.lt
  have hsz := S.sz
  have htl := fun g h => (S.ht.lt g h).2
  have hxl := fun g h => (S.hx.lt g h).2
  have hrr := fun r hr g h => (S.hs r hr g h).1
  have hpp := fun k hk => (S.pr k hk).1
  clear S
  have VT := hide (v_tab tb ht.1)
  have HR := hide (fun wq hb => hs.below (w' := wq) (B := w.heap.size) hb (Nat.le_refl _))
  have HTT := hide (fun wq hb => hT.below (w' := wq) (B := w.heap.size) hb (Nat.le_refl _))
  obtain ⟨aor, cpr, hv, hl1, hl2, _⟩ := hs
  subst hv
  have HLD := hide (fun wq hs => lend_any (.slice aor rs.length cpr) rs wq hs hmr)
  have HLT := hide (fun x wq hx hs => lent_any x (.slice aor rs.length cpr) rs wq hx hs hmr)
  have HP1 := hide (fun vq wq hr ht => Translate_any s i entry before vq rs wq hm hi he hbf hr hz ht)
  have HP2 := hide (fun wq hr => rTranslate_any tb ht s i entry before (.slice aor rs.length cpr) rs wq hm hi he hbf hr hmr hz)
  obtain ⟨hps, hpe⟩ := trR_path s.data.toList i entry before rs
  generalize trR s.data.toList i entry before rs = tr at HP1 HP2 hps hpe
  obtain ⟨ps, t1, t2, c⟩ := tr
  simp only at HP1 HP2 hps hpe
  obtain ⟨l1, hl1e⟩ : ∃ l1, l1 = mk t1 := ⟨_, rfl⟩
  obtain ⟨l2, hl2e⟩ : ∃ l2, l2 = mk t2 := ⟨_, rfl⟩
  rw [← hl1e, ← hl2e] at HP1 HP2
  have HPE := hide hpe
  have hbel0 : Below w.heap.size w (w.alloc (.cells (ucells tb).toArray 38)) := (Below.refl _ _).alloc (Nat.le_refl _) _
  have K0 := hide hbel0
  have hz0 : (w.alloc (.cells (ucells tb).toArray 38)).heap.size = w.heap.size + 1 := by simp
  have G0 := hide (show (w.alloc (.cells (ucells tb).toArray 38)).heap[w.heap.size]? = some (.cells (ucells tb).toArray 38 (0, 0)) from heap_alloc_new w _)
  clear hbel0 hpe hT hl1e hl2e hz
  go_enter Tryd.func7, Tryd.ntmps7
  go_upto_region 1 with fail
  generalize (w.alloc (.cells (ucells tb).toArray 38)) = W0 at K0 G0 hz0 ⊢
  go_wp2_with fail
  refine (unhide HLD _ (unhide HR _ (unhide K0))).mono ?_
  rintro e w1 ⟨g1, rfl, hown1, hb1⟩
  rw [hz0] at hb1 hown1
  have K1 := hide ((unhide K0).trans (hb1.mono (by omega)))
  have F1 := hide (show Strs w1 (.slice (some ⟨g1, 0, none⟩) rs.length (rs.length + 2)) rs by
    have := (strs_of_own hown1).cutF rs.length (by omega)
    rw [show (lentL rs).take rs.length = rs from List.take_left' rfl] at this
    exact this)
  have X1 := hide (strs_of_own hown1)
  have G1 := hide ((hb1.block _ (by omega)).trans (unhide G0))
  have hs1 := (unhide K1).size
  clear hown1 hb1 K0 G0 HLD
  go_wp2_with fail
  refine (unhide HP1 _ _ (unhide F1) (unhide HTT _ (unhide K1))).mono ?_
  rintro e w2 ⟨v2, rfl, hown2, hb2⟩
  obtain ⟨ao2, cp2, rfl⟩ := own_shape hown2
  have W3 := car_new w2 #[.slice none 0 0, .string ⟨#[]⟩, .string ⟨#[]⟩] #[.slice ao2 ps.length cp2, .string l1, .string l2] 60
  have K2 := hide ((unhide K1).trans (hb2.mono hs1))
  have X2 := hide ((unhide X1).below hb2 (Nat.le_refl _))
  have G2 := hide ((hb2.block _ (lt_of_block (unhide G1))).trans (unhide G1))
  have hs2 := (unhide K2).size
  have hg1w : ∀ q, q < w1.heap.size → q < w2.heap.size := fun q hq => Nat.lt_of_lt_of_le hq hb2.size
  have O2 := hide (own_baseT hown2 hs1)
  have hbnd0 : ∀ k, (Value.slice ao2 ps.length cp2).ownBlock = some k → k < w2.heap.size := fun k hk => (hown2.lt k hk).2
  clear hb2 hown2 F1 HP1 X1 G1 K1
  go_upto_region 3 with ((with_reducible refine at_store ?_); go_must (refine wpList_store_row rfl 60 _ _ rfl w2.heap.size #[.slice ao2 ps.length cp2, .string l1, .string l2] rfl rfl 60 _ (heap_alloc_new w2 _) info_car rfl (car_one _ _ _ _ _) ?_))
  generalize (w2.alloc (.cells #[.slice none 0 0, .string ⟨#[]⟩, .string ⟨#[]⟩] 60)).setRow w2.heap.size #[.slice ao2 ps.length cp2, .string l1, .string l2] = w3 at W3 ⊢
  obtain ⟨hb3, hp3, hz3⟩ := W3
  have K3 := hide ((unhide K2).trans (hb3.mono hs2))
  have X3 := hide ((unhide X2).below hb3 (Nat.le_refl _))
  have G3 := hide ((hb3.block _ (lt_of_block (unhide G2))).trans (unhide G2))
  have O3 := hide (own_keep (unhide O2) hb3)
  have P3 := hide hp3
  have hs3 : w.heap.size ≤ w3.heap.size := (unhide K3).size
  have ha1 : w.heap.size ≤ w2.heap.size := hs2
  have ha1' : w2.heap.size < w3.heap.size := by omega
  have hbnd := hbnd0
  clear hbnd0
  generalize w2.heap.size = A1 at P3 ha1 ha1' hbnd ⊢
  clear hb3 hp3 hz3 K2 X2 G2 O2 hs2 hg1w
  go_wp2_with ((with_reducible refine at_load ?_); refine wpList_load_row rfl 38 _ rfl w.heap.size (by rfl) 38 (ucells tb).toArray (0, 0) _ (unhide G3) Tryd.underlying38 rfl (unhide VT) ?_)
  refine (unhide HP2 _ (unhide HR _ (unhide K3))).mono ?_
  rintro e w4 ⟨v4, rfl, hown4, hb4⟩
  obtain ⟨ao4, cp4, rfl⟩ := own_shape hown4
  have W5 := car_new w4 #[.slice none 0 0, .string ⟨#[]⟩, .string ⟨#[]⟩] #[.slice ao4 ps.length cp4, .string l1, .string l2] 60
  have K4 := hide ((unhide K3).trans (hb4.mono hs3))
  have X4 := hide ((unhide X3).below hb4 (Nat.le_refl _))
  have O4 := hide (own_keep (unhide O3) hb4)
  have D4 := hide (digs_of_own (unhide HPE) hown4 rfl)
  have P4 := hide ((hb4.block _ ha1').trans (unhide P3))
  have hs4 : w3.heap.size ≤ w4.heap.size := hb4.size
  clear hb4 hown4 HP2 K3 X3 G3 O3 P3
  go_upto_region 4 with ((with_reducible refine at_store ?_); go_must (refine wpList_store_row rfl 60 _ _ rfl w4.heap.size #[.slice ao4 ps.length cp4, .string l1, .string l2] rfl rfl 60 _ (heap_alloc_new w4 _) info_car rfl (car_one _ _ _ _ _) ?_))
  generalize (w4.alloc (.cells #[.slice none 0 0, .string ⟨#[]⟩, .string ⟨#[]⟩] 60)).setRow w4.heap.size #[.slice ao4 ps.length cp4, .string l1, .string l2] = w5 at W5 ⊢
  obtain ⟨hb5, hp5, hz5⟩ := W5
  have K5 := hide ((unhide K4).trans (hb5.mono (by omega)))
  have X5 := hide ((unhide X4).below hb5 (Nat.le_refl _))
  have O5 := hide (own_keep (unhide O4) hb5)
  have D5 := hide ((unhide D4).below hb5 (Nat.le_refl _))
  have P5 := hide ((hb5.block _ (by omega)).trans (unhide P4))
  have Q5 := hide hp5
  have ha2 : w3.heap.size ≤ w4.heap.size := hs4
  have ha2' : w4.heap.size < w5.heap.size := by omega
  generalize w4.heap.size = A2 at Q5 ha2 ha2' ⊢
  clear hb5 hp5 hz5 K4 X4 O4 D4 P4 hs4
  go_wp2_with fail
  refine (unhide HLT _ _ (unhide X5) (unhide HR _ (unhide K5))).mono ?_
  rintro e w6 ⟨rfl, hb6⟩
  have K6 := hide ((unhide K5).trans (hb6.mono (by omega)))
  have O6 := hide (own_keep (unhide O5) hb6)
  have D6 := hide ((unhide D5).below hb6 (Nat.le_refl _))
  have P6 := hide ((hb6.block _ (by omega)).trans (unhide P5))
  have Q6 := hide ((hb6.block _ (by omega)).trans (unhide Q5))
  have c61 := (cells_car (unhide P6)).1
  have c62 := (cells_car (unhide Q6)).1
  have hs6 : w5.heap.size ≤ w6.heap.size := hb6.size
  clear hb6 HLT K5 X5 O5 D5 P5 Q5
  go_wp2_with fail
  refine (sameD_any _ _ ps _ (digs_of_own (unhide HPE) (unhide O6) rfl) (unhide D6) (by omega)).mono ?_
  rintro e w7 ⟨rfl, hb7⟩
  have P7 := hide ((hb7.block _ (by omega)).trans (unhide P6))
  have Q7 := hide ((hb7.block _ (by omega)).trans (unhide Q6))
  have c71 := (cells_car (unhide P7)).1
  have O7 := own_keep (unhide O6) hb7
  have K7 := (unhide K6).trans (hb7.mono (by omega))
  have S7 := StD.take ((unhide HS).later (grown_of_below K7)) hsz (O7.mono (Nat.le_refl _)) hG htl hxl hrr hpp
  have hge := own_row_ge O7
  have hbk2 := hbnd
  have S8 := S7.rebase (P' := fun k => P k ∨ k = A1 ∨ k = A2) (fun k hk => by
    rcases hk with hk | hk | hk
    · exact ⟨(S7.pr k hk).1, (S7.pr k hk).2.2⟩
    · subst hk
      exact ⟨lt_of_block (unhide P7), by omega, fun h => by have := htl _ h; omega, fun h => by have := hxl _ h; omega, fun h => by have := hbk2 _ h; omega⟩
    · subst hk
      exact ⟨lt_of_block (unhide Q7), by omega, fun h => by have := htl _ h; omega, fun h => by have := hxl _ h; omega, fun h => by have := hbk2 _ h; omega⟩)
  have hst := bsums_any _ B G b w7 w7 recs (.slice ao2 ps.length cp2) ps.length ps S8 (by omega) (by omega) rfl (unhide HPE) (by omega) (fun r hr g hv h => by have := hge g hv; have := hrr r hr g h; omega)
  have HBEL := hide S7.bel
  have HPR := hide S7.pr
  have HST := hide hst
  clear S7 S8 O7 hge O6 K6 D6 P6 Q6 hb7 HS hst K7 c61 c62
  go_wp2_with fail
  refine (unhide HST).mono ?_
  rintro e w8 ⟨b', recs', S9, hn4, hr4, hd4, hk4, hp4, rfl⟩
  have p8 := ((S9.pr A1 (.inr (.inl rfl))).2.1).trans (unhide P7)
  have q8 := ((S9.pr A2 (.inr (.inr rfl))).2.1).trans (unhide Q7)
  obtain ⟨_, d1, d2⟩ := cells_car p8
  obtain ⟨_, d3, d4⟩ := cells_car q8
  have HB := hide (show ∃ b' recs', BkD P B w0 w8 G b' recs' ∧ b'.n = b.n + 1 ∧ recs'.length = recs.length + 4 ∧ b'.tv = b.tv ∧ b'.kv = b.kv ∧ b'.pv = b.pv from ⟨b', recs', StD.unbase S9 (unhide HBEL) (fun k hk => ⟨.inl hk, (unhide HPR k hk).2.1⟩), hn4, hr4, hd4, hk4, hp4⟩)
  clear S9 hn4 hr4 hd4 hk4 hp4 HST HBEL HPR P7 Q7 p8 q8 c71
  have hnu := fun wq => num_any (c : Int) wq
  have hll1 : (l1.toList == l1.toList) = true := by simp
  have hll2 : (l2.toList == l2.toList) = true := by simp
  have hcc : ((c : Int) == (c : Int)) = true := by simp
  go_wp2_with (go_at_call 28; refine (hnu _).mono ?_; rintro e wz ⟨rfl, hez⟩; cases hez)
  go_ret
  exact ⟨rfl, unhide HB⟩

set_option maxRecDepth 100000 in
set_option maxHeartbeats 1600000 in
theorem translates_any (s : ByteArray) (i : Int) (entry : ByteArray) (before : Nat) (vr : Value) (rs : List ByteArray) (w : World) (hm : s.size ≤ maxLen) (hi : -9223372036854775808 ≤ i ∧ i ≤ 9223372036854775807) (he : entry.size ≤ 140737488351232) (hbf : before < 65536) (h : Strs w vr rs) (hmr : rs.length * 16 ≤ 140737488351232) (hz : ∀ i, i < rs.length → (rs.getD i ByteArray.empty).size ≤ 140737488351232) (hT : Tabs w) :
    Calls Tryd.prog 3 #[.string s, .int .i64 i, .string entry, .int .u16 before, vr] w fun e w' => e = .returned (.bool true) ∧ Below w.heap.size w w' := by
  have hzt := zero_tab
  have hzl := z72_length
  have hns := newsums_any
  have hok := tabOk
  unfold tabV at hns
  generalize z72 = z7 at hzt hzl
  generalize Hl ++ Kl = tb at hns hok
  have htl := hok.1
  have VT := hide (v_tab tb htl)
  have ZT := hide (show (ucells z7).toArray.size = (ucells tb).toArray.size by rw [ucells_size, ucells_size, htl, hzl])
  have HS := hide (fun wq hb => h.below (w' := wq) (B := w.heap.size) hb (Nat.le_refl _))
  have HT := hide (fun wq hb => hT.below (w' := wq) (B := w.heap.size) hb (Nat.le_refl _))
  have HTR := hide (fun P b w0 wq recs S hs hT hb hrl => btr_any P w.heap.size w.heap.size b w0 wq recs tb hok s i entry before vr rs S hm hi he hbf hs hmr hz hT hb hrl)
  clear h hT hok hi hz
  go_enter Tryd.func3, Tryd.ntmps3
  go_upto_region 2 with fail
  rw [← b0_cells]
  have hb0 : Below w.heap.size w (w.alloc (.cells b0.cells 33)) := (Below.refl _ _).alloc (Nat.le_refl _) _
  have g0 : BkAt (w.alloc (.cells b0.cells 33)) w.heap.size b0 := heap_alloc_new w _
  generalize (w.alloc (.cells b0.cells 33)) = W0 at hb0 g0 ⊢
  go_upto_region 3 with (first | (go_at_call 6; (with_reducible refine (hns _).mono ?_); rintro e w1 ⟨rfl, hb1⟩) | ((with_reducible refine at_store ?_); refine wpList_store_row rfl 38 _ _ rfl w1.heap.size (ucells tb).toArray rfl rfl 38 _ (heap_alloc_new w1 _) (unhide VT) (unhide ZT) (ucells_one tb) ?_))
  have hb2 : Below w.heap.size w ((w1.alloc (.cells (ucells z7).toArray 38)).setRow w1.heap.size (ucells tb).toArray) := by
    have h1 := hb0.trans (hb1.mono hb0.size)
    exact h1.trans ((put_below w1 _ _).mono h1.size)
  have g1 : URow ((w1.alloc (.cells (ucells z7).toArray 38)).setRow w1.heap.size (ucells tb).toArray) w1.heap.size 38 tb := heap_put_new _ _ _ _
  have S2 : BkD (fun k => k = w1.heap.size) w.heap.size ((w1.alloc (.cells (ucells z7).toArray 38)).setRow w1.heap.size (ucells tb).toArray) ((w1.alloc (.cells (ucells z7).toArray 38)).setRow w1.heap.size (ucells tb).toArray) w.heap.size b0 [] := by
    have h1 := g0.same (hb1.block _ g0.lt)
    have h2 := h1.same ((put_below w1 (.cells (ucells z7).toArray 38) (ucells tb).toArray).block _ h1.lt)
    exact book_new h2 (Nat.le_refl _) _ (fun k hk => by subst hk; exact ⟨by rw [put_size]; omega, by have := h1.lt; omega⟩)
  generalize ((w1.alloc (.cells (ucells z7).toArray 38)).setRow w1.heap.size (ucells tb).toArray) = W2 at hb2 g1 S2 ⊢
  generalize w1.heap.size = GT at g1 S2 ⊢
  generalize hbe : b0 = b at S2
  have hd0 : b.tv = .slice none 0 0 := by rw [← hbe]; rfl
  have hk0 : b.kv = .slice none 0 0 := by rw [← hbe]; rfl
  have hp0 : b.pv = .slice none 0 0 := by rw [← hbe]; rfl
  have hn0 : b.n = 0 := by rw [← hbe]; rfl
  have hr1 := unhide HTR _ b _ _ _ S2 (unhide HS _ hb2) (unhide HT _ hb2) (by omega) (by simp)
  have G1 := hide g1
  clear hbe S2 hb0 g0 hb1 hns hzt hzl ZT g1
  go_wp2_with ((with_reducible refine at_load ?_); refine wpList_load_row rfl 38 _ rfl GT (by rfl) 38 (ucells tb).toArray (0, 0) _ (unhide G1) Tryd.underlying38 rfl (unhide VT) ?_)
  refine hr1.mono ?_
  rintro e w3 ⟨rfl, b3, r3, S3, hn3, hl3, hd3, hk3, hp3⟩
  have hb3 := hb2.trans S3.bel
  have hr2 := unhide HTR _ b3 _ _ _ S3 (unhide HS _ hb3) (unhide HT _ hb3) (by omega) (by simp at hl3; omega)
  have G3 := hide (show URow w3 GT 38 tb from ((S3.pr GT rfl).2.1).trans (unhide G1))
  clear S3 hr1 G1 hb3
  go_wp2_with ((with_reducible refine at_load ?_); refine wpList_load_row rfl 38 _ rfl GT (by rfl) 38 (ucells tb).toArray (0, 0) _ (unhide G3) Tryd.underlying38 rfl (unhide VT) ?_)
  refine hr2.mono ?_
  rintro e w4 ⟨rfl, b4, r4, S4, hn4, hl4, hd4, hk4, hp4⟩
  have hho := holds_any _ _ _ _ _ _ _ S4 (by simp at hl3; omega) (by rw [hd4, hd3, hd0]) (by rw [hk4, hk3, hk0]) (by rw [hp4, hp3, hp0])
  have HBEL := hide (hb2.trans S4.bel)
  clear S4 hr2 hn3 hl3 hd3 hk3 hp3 hn4 hl4 hd4 hk4 hp4 hd0 hk0 hp0 hn0 G3 hb2 HTR HS HT
  go_wp2_with fail
  refine hho.mono ?_
  rintro e w5 ⟨rfl, hb5⟩
  have HB5 := hide ((unhide HBEL).trans (hb5.mono (unhide HBEL).size))
  clear hho hb5
  go_wp2
  go_ret
  exact ⟨rfl, unhide HB5⟩
end Go.Proofs.YtanfolfopalbeabDoor
namespace Go.Proofs.YtanfolfopalbeabDoor
open Go.ChangeShapes Go.WideShapes Go.ChangeAt Go.RowKit

set_option maxRecDepth 100000 in
set_option maxHeartbeats 800000 in
theorem translates_contract (H : Type) (enc : TypeId × Value → H) (W : World) (base : Nat) (args : Array Value) (ds gs : List (DataW H)) (before : List MemPlace)
    (hval : ∀ (j : Nat) t v, Tryd.f3.params[j]? = some t → args[j]? = some v → Value.okWide Tryd.prog W .any base t v)
    (hW : DataW.Whole enc Tryd.prog Tryd.f3.params.toList Rows.translatesSpec.vars false W args.toList ds gs before)
    (hsz : (DataW.weightsEach Tryd.prog (Tryd.f3.params.toList ++ Rows.translatesSpec.plain.varTypes Tryd.prog) (ds ++ gs)).all (· ≤ reachBytes) = true) (hL : laidMetH Tryd.prog Rows.translatesRow.laid W) :
    Calls Tryd.prog 3 args W fun e W' => ∃ v, e = .returned v ∧ Rows.translatesSpec.post enc Tryd.prog Tryd.f3 false true false false W args v W' := by
  have hW' := hW
  obtain ⟨p, q, hA0, hV, rfl, hfz, hnd⟩ := hW
  have hA : DataW.TrodAll enc Tryd.prog W 0 (fun _ => true) true Tryd.f3.params.toList args.toList ds p := hA0
  rw [Tryd.params3] at hA hval hsz
  obtain ⟨v0, vs0, d0, ds0, p0, q0, hargs, rfl, rfl, h0, r0⟩ := trodAll_cons hA
  obtain ⟨v1, vs1, d1, ds1, p1, q1, rfl, rfl, rfl, h1, r1⟩ := trodAll_cons r0
  obtain ⟨v2, vs2, d2, ds2, p2, q2, rfl, rfl, rfl, h2, r2⟩ := trodAll_cons r1
  obtain ⟨v3, vs3, d3, ds3, p3, q3, rfl, rfl, rfl, h3, r3⟩ := trodAll_cons r2
  obtain ⟨v4, vs4, d4, ds4, p4, q4, rfl, rfl, rfl, h4, r4⟩ := trodAll_cons r3
  obtain ⟨rfl, rfl, rfl⟩ := trodAll_nil r4
  obtain rfl : args = #[v0, v1, v2, v3, v4] := by cases args; simp_all
  obtain ⟨rfl, rfl⟩ := trodVars_none hV
  obtain ⟨ss4, hS4, hm4, hz4⟩ := strs_of_argZ (hval 4 23 v4 rfl rfl) h4 hsz (j := 4) rfl rfl
  obtain ⟨s0, rfl, rfl, rfl, w0⟩ := Go.ChangeMaps.open_string Tryd.underlying9 (hval 0 9 v0 rfl rfl) h0
  have hs0 : s0.size ≤ 140737488351232 := sized_string hsz (j := 0) (t := 9) (bytes := s0.data.toList) rfl rfl
  obtain ⟨i1, rfl, rfl, rfl, w1⟩ := open_int Tryd.underlying3 (hval 1 3 v1 rfl rfl) h1
  have bi1 := bounds_i64 w1
  obtain ⟨s2, rfl, rfl, rfl, w2⟩ := Go.ChangeMaps.open_string Tryd.underlying9 (hval 2 9 v2 rfl rfl) h2
  have hs2 : s2.size ≤ 140737488351232 := sized_string hsz (j := 2) (t := 9) (bytes := s2.data.toList) rfl rfl
  obtain ⟨u3', rfl, rfl, rfl, w3⟩ := open_int Tryd.underlying22 (hval 3 22 v3 rfl rfl) h3
  have bu3' := bounds_u16 w3
  obtain ⟨u3, rfl⟩ : ∃ k : Nat, u3' = (k : Int) := ⟨u3'.toNat, by omega⟩
  have bu3 : u3 < 65536 := by omega
  refine (translates_any s0 i1 s2 u3 v4 ss4 W (Nat.le_trans hs0 (by unfold maxLen; decide)) (by omega) hs2 bu3 hS4 hm4 hz4 (tables hL)).mono fun e W' ⟨he, hb⟩ => ?_
  subst he
  have hlt4 : ∀ x ∈ p4, x.block < W.heap.size := fun x hx => by
    have := hW'.lt x (by simp [hx])
    simpa using this
  refine ⟨_, rfl, _, _, _, [], [] ++ ([] ++ ([] ++ ([] ++ (p4 ++ [])))), [], hW', trodAll_cons_mk (shut_bool Tryd.underlying4 _) trodAll_mk0, ?_, rfl, hb.frame _, fun h => by cases h⟩
  exact trodAll_cons_mk (Go.ChangeMaps.shut_string Tryd.underlying9 w0) (trodAll_cons_mk (shut_int Tryd.underlying3 w1) (trodAll_cons_mk (Go.ChangeMaps.shut_string Tryd.underlying9 w2) (trodAll_cons_mk (shut_int Tryd.underlying22 w3) (trodAll_cons_mk (Below.trod laidOutP (by kernel_rfl) (of_decide_eq_true (by kernel_rfl)) h4 hb hlt4) trodAll_mk0))))

/-- The arguments of the witness. -/
def translatesArgs : Array Value := #[.string ⟨#[]⟩, .int .i64 0, .string ⟨#[]⟩, .int .u16 0, .slice none 0 0]
set_option maxRecDepth 100000 in
theorem translates_laid_met (os : Os) : laidMet Tryd.prog Rows.translatesRow.laid ((laidWorld os).forCall (fun _ _ => 0) ⟨#[], translatesArgs, []⟩).memory :=
  laidMet_of_run' 8 (by kernel_rfl) (by kernel_rfl)
set_option maxRecDepth 100000 in
theorem translates_reads (os : Os) {H : Type} (enc : TypeId × Value → H) : ∃ places, DataW.whole enc Tryd.prog ((laidWorld os).forCall (fun _ _ => 0) ⟨#[], translatesArgs, []⟩).memory Tryd.f3.params.toList Rows.translatesSpec.vars false translatesArgs.toList 8 = some ([.lit (.string []), .lit (.int .i64 0), .lit (.string []), .lit (.int .u16 0), .nil], [], places) :=
  ⟨[], by kernel_rfl⟩

set_option maxRecDepth 100000 in
theorem translates_lifted (os : Os) (started : os.Started) (H : Type) (enc : TypeId × Value → H) (F : Stop.Interp) :
    ReturnsInHanded {} Tryd.checked os 3 .any ((OpenSpec.ofChange Rows.translatesSpec).preRow enc Tryd.prog Tryd.f3 Rows.translatesRow.domain false Rows.translatesRow.laid) (((OpenSpec.ofChange Rows.translatesSpec).at F).post enc Tryd.prog Tryd.f3 false true false false) := by
  obtain ⟨places, hx⟩ := translates_reads os enc
  refine returnsInHanded_of_row (C := Tryd.checked) (s := OpenSpec.ofChange Rows.translatesSpec) own started (by kernel_rfl) Tryd.func3
    (witness_row_at (enc := enc) (C := Tryd.checked) false (laidWorld os) translatesArgs rfl (by kernel_rfl) (by kernel_rfl) (by kernel_rfl)
      (OpenSpec.preRow_of_cond 8 hx (by kernel_rfl) (fun k hk => by cases hk) (by kernel_rfl) (translates_laid_met os))) ?_
  intro W base args ds gs before hval hW _ _ hsz hL _ _
  exact translates_contract H enc W base args ds gs before hval hW hsz hL

set_option maxRecDepth 100000 in
theorem translates_said : Rows.TranslatesSaid :=
  OpenClaim.holds_of_cond 3 Tryd.f3 rfl rfl rfl rfl rfl rfl rfl ⟨rfl, rfl, rfl, rfl, rfl⟩ rfl rfl rfl rfl rfl (by kernel_rfl) Tryd.func3 (by kernel_rfl)
    (of_decide_eq_true (by kernel_rfl)) (by unfold Func.isWrapper; first | (rw [if_pos (by decide +kernel)]; kernel_rfl) | (rw [if_neg (by decide +kernel)]; exact ⟨rfl, rfl⟩))
    (fun os started H enc _ F => by rw [OpenClaim.pre_eq_preRow]; exact translates_lifted os started H enc F)

set_option maxRecDepth 100000 in
theorem translates_plain (f : FuncId) (fn : Func) (hf : Tryd.pinned.checked.prog.funcNamed "ferry/ferrylaw.Translates" = some f) (hfn : Tryd.pinned.checked.prog.funcs[f]? = some fn) :
    false = Tryd.pinned.checked.prog.looks [] ∧ ∀ (j : Nat) t, fn.params[j]? = some t → Tryd.pinned.checked.prog.wantsStandIn t = false := by
  obtain rfl : f = 3 := Option.some.inj ((show Tryd.prog.funcNamed "ferry/ferrylaw.Translates" = some 3 by kernel_rfl).symm.trans hf) |>.symm
  obtain rfl : fn = Tryd.f3 := (Option.some.inj (Tryd.func3.symm.trans hfn)).symm
  refine ⟨by kernel_rfl, fun j t ht => ?_⟩
  rw [Tryd.params3] at ht
  have hm := Array.mem_of_getElem? ht
  simp only [List.mem_toArray, List.mem_cons, List.not_mem_nil, or_false] at hm
  rcases hm with rfl | rfl | rfl | rfl | rfl
  · exact (show Tryd.prog.wantsStandIn 9 = false by kernel_rfl)
  · exact (show Tryd.prog.wantsStandIn 3 = false by kernel_rfl)
  · exact (show Tryd.prog.wantsStandIn 9 = false by kernel_rfl)
  · exact (show Tryd.prog.wantsStandIn 22 = false by kernel_rfl)
  · exact (show Tryd.prog.wantsStandIn 23 = false by kernel_rfl)

set_option maxRecDepth 100000 in
/-- The card. -/
theorem translates_card : Rows.TranslatesCardSaid :=
  Claim7.holds_tied_plain_at .later [] _ _ _ _ translates_said (fun _ h => by cases h) (by kernel_rfl) (fun _ h => by cases h) translates_row_tie rfl ⟨rfl, rfl⟩ (by kernel_rfl) rfl translates_plain (by kernel_rfl)
end Go.Proofs.YtanfolfopalbeabDoor
