/- The reference's half, leaf and node. lendDigests, sameDigests: the contracts. ferrylaw's lendDisk, lentDisk; ferryref's Planned: the contracts. '==' of two equal items of a plan; samePlans of two equal plans. samePlans of two equal plans: the contract. The book's disksHold, inside an object: the contract. -/
import Derived.Test.YtanfolfopalbeaaDoorRefTimes
import Derived.Test.YtanfolfopalbeaaDoorRefBlock
import Derived.Deep.MidRow
import Derived.Deep.RegionWith
import Derived.Test.YtanfolfopalbeaaDoorRead
import Derived.Test.YtanfolfopalbeaaDoorDigSame
import Derived.Test.YtanfolfopalbeaaDoorTreeClimb
import Derived.Deep.RegionHeld3
import Derived.Test.YtanfolfopalbeaaDoorCopyBig
import Derived.Laws.CopyRow
import Derived.Laws.CopyOwn
import Derived.OwnWalk
import Derived.Test.YtanfolfopalbeaaDoorCarry6
import Derived.Test.YtanfolfopalbeaaDoorCarry5
import Derived.Laws.StructEq
import Derived.Test.YtanfolfopalbeaaDoorBookHo
import Derived.Test.YtanfolfopalbeaaDoorBookDk
import Derived.Test.YtanfolfopalbeaaDoorBookPl
import Derived.Deep.QuietTactic
namespace Go.Proofs.YtanfolfopalbeaaDoor
open Go.RowKit

/-- The greatest x whose power is not above P, bit by bit: so many bits are left. -/
def rtl (pw P : Nat) : Nat → Nat → Nat
  | 0, x => x
  | b + 1, x => rtl pw P b (if P < (x + 2 ^ b) ^ pw then x else x + 2 ^ b)
def rt (p pw : Nat) : Nat := rtl pw (p * 65536 ^ (2 * pw)) 41 0 % 4294967296
/-- The digits of p times a power of two. -/
def wantL (p pw : Nat) : List Nat := (List.replicate 8 0).set (2 * pw) p
theorem want_val (p pw : Nat) (h : pw ≤ 3) : val (wantL p pw) = p * 65536 ^ (2 * pw) := by
  have := val_set (List.replicate 8 0) (2 * pw) p (by rw [List.length_replicate]; omega)
  rw [val_zeros] at this
  have h0 : (List.replicate 8 0).getD (2 * pw) 0 = 0 := by
    rw [List.getD]
    cases hc : (List.replicate 8 0)[2 * pw]? with
    | none => rfl
    | some x => exact (List.mem_replicate.1 (List.mem_of_getElem? hc)).2
  rw [h0, Nat.mul_zero, Nat.add_zero, Nat.zero_add] at this
  unfold wantL
  rw [this, Nat.mul_comm]
theorem want_lt (p pw : Nat) (hp : p < 65536) : ∀ x ∈ wantL p pw, x < 65536 := by
  intro x hx
  rcases List.mem_or_eq_of_mem_set hx with h | h
  · rw [(List.mem_replicate.1 h).2]; decide
  · omega
theorem want_length (p pw : Nat) : (wantL p pw).length = 8 := by simp [wantL]
theorem limb_length (n : Nat) : (limb n).length = 3 := rfl

set_option maxRecDepth 100000 in
set_option maxHeartbeats 1600000 in
theorem rooted_any (p pw : Nat) (w : World) (hp : p < 512) (hpw : 1 ≤ pw ∧ pw ≤ 3) :
    Calls Tryd.prog 50 #[.int .i64 p, .int .i64 pw] w fun e w' => e = .returned (.int .u64 (rt p pw)) ∧ Below w.heap.size w w' := by
  obtain ⟨i0, hi, hz0, hz1, hz2⟩ := info_parts info_int
  obtain ⟨hpw1, hpw2⟩ := hpw
  have e0 : (2 : Int) * (pw : Int) = ((2 * pw : Nat) : Int) := by simp
  have HWV := hide (want_val p pw hpw2)
  have HWL := hide (want_lt p pw (by omega))
  have HWN := hide (want_length p pw)
  have HWS := hide (show wantL p pw = (List.replicate 8 0).set (2 * pw) p from rfl)
  have HRT := hide (show rt p pw = rtl pw (p * 65536 ^ (2 * pw)) 41 0 % 4294967296 from rfl)
  have hq8 : 2 * pw < 8 := by omega
  generalize hqe : 2 * pw = q at *
  clear hqe
  generalize p * 65536 ^ q = P at *
  generalize wantL p pw = wl at *
  have j1 : (q : Int) < 8 := by omega
  go_enter Tryd.func50, Tryd.ntmps50
  go_wp2_with (at_make; go_must (refine wpList_make_full _ rfl _ _ 78 rfl w.heap.size 3 i0 (.int .i64 0) 1 Tryd.underlying78 hi hz0 hz1 _ _ _ _ 8 rfl rfl (by omega) (by omega) (by rw [hz2]; omega) (by unfold maxLen; omega) (Nat.le_refl _) ?_))
  intro w1 hown1 hgrow1
  have hbel1 : Below w.heap.size w w1 := (Below.refl _ _).grown hgrow1 (Nat.le_refl _) (fun k h => by cases h)
  have hblk1 : IBlk w1 w.heap.size (List.replicate 8 0) := by
    have := own_full hown1
    rw [made_zeros] at this
    exact this
  clear hown1 hgrow1
  have cq := hblk1.cell q (by rw [List.length_replicate]; exact hq8)
  have fq := hblk1.free q
  have HB1 := hide hblk1
  have HL1 := hide hbel1
  clear hblk1 hbel1
  go_wp2
  have hwant : IBlk (w1.setCell ⟨w.heap.size, q, none⟩ (.int .i64 (p : Int))) w.heap.size wl := by
    rw [unhide HWS]
    exact (unhide HB1).set q p
  have hbel : Below w.heap.size w (w1.setCell ⟨w.heap.size, q, none⟩ (.int .i64 (p : Int))) := (unhide HL1).setCell (by exact Nat.le_refl _) _
  generalize (w1.setCell ⟨w.heap.size, q, none⟩ (.int .i64 (p : Int))) = w2 at hwant hbel ⊢
  have hI := hwant.ints (unhide HWN) (by unfold maxLen; omega)
  clear cq fq HB1 HL1 hwant
  go_loopw [6, 7] (fun tx tb wr => ∃ b x : Nat, b ≤ 41 ∧ x + 2 ^ b ≤ 2199023255552 ∧ tx = .int .i64 x ∧ tb = .int .i64 ((2 ^ b / 2 : Nat) : Int) ∧ Hid (rtl pw P 41 0 = rtl pw P b x) ∧ Ints wr (.slice (some ⟨w.heap.size, 0, none⟩) 8 8) wl ∧ Below w.heap.size w wr) (fun _ tb _ => (intOf tb).toNat)
  case atStart => exact ⟨41, 0, by omega, by decide, rfl, rfl, hide rfl, hI, hbel⟩
  case round =>
    obtain ⟨b, x, hb, hx, rfl, rfl, HR, hI, hbel⟩ := hrel
    cases b with
    | zero =>
      have hd : decide ((0 : Int) < ((2 ^ 0 / 2 : Nat) : Int)) = false := rfl
      have HR2 := hide (show rt p pw = x % 4294967296 by rw [unhide HRT, unhide HR]; rfl)
      clear HRT HR
      have ev : (2 ^ 0 / 2 : Nat) = 0 := rfl
      rw [ev]
      go_wp2
      go_ret
      refine ⟨?_, hbel⟩
      rw [unhide HR2]
      exact ret_int (by omega)
    | succ b =>
      have ev : (2 ^ (b + 1) / 2 : Nat) = 2 ^ b := by rw [Nat.pow_succ]; omega
      rw [ev]
      have h2b : 0 < 2 ^ b := Nat.pos_of_ne_zero (by simp)
      rw [Nat.pow_succ] at hx
      have HST := hide (show rtl pw P (b + 1) x = rtl pw P b (if P < (x + 2 ^ b) ^ pw then x else x + 2 ^ b) from rfl)
      have HHALF := hide (show ∀ y, y = 2 ^ b → y / 2 = 2 ^ b / 2 from fun y h => by rw [h])
      generalize hbe : 2 ^ b = bit at *
      have hd : decide ((0 : Int) < (bit : Int)) = true := by simp; omega
      have e1 : (x : Int) + (bit : Int) = ((x + bit : Nat) : Int) := by simp
      generalize hXe : x + bit = X at *
      have hX : X < 281474976710656 := by omega
      have HXE := hide hXe
      have HBE := hide hbe
      clear hXe hbe
      go_wp2_with (go_at_call 85; refine (limbs_any X _ hX).mono ?_; rintro e wa ⟨lv, rfl, hL, hbl⟩)
      have hI2 := hI.below hbl (Nat.le_refl _)
      have hbel2 := hbel.trans (hbl.mono hbel.size)
      have HLV := hide (limb_val X)
      have HLT := hide (limb_lt X hX)
      clear hI hbel hbl
      go_loopw [9, 10] (fun nv tk wr => ∃ (k : Nat) (c : List Nat), 1 ≤ k ∧ k ≤ pw ∧ tk = .int .i64 k ∧ Ints wr nv c ∧ c.length = 3 * k ∧ Hid (∀ d ∈ c, d < 65536) ∧ Hid (val c = X ^ k) ∧ Ints wr lv (limb X) ∧ Ints wr (.slice (some ⟨w.heap.size, 0, none⟩) 8 8) wl ∧ Below w.heap.size w wr) (fun _ tk _ => pw - (intOf tk).toNat)
      case atStart => exact ⟨1, limb X, Nat.le_refl _, hpw1, rfl, hL, rfl, HLT, hide (by rw [unhide HLV, Nat.pow_one]), hL, hI2, hbel2⟩
      case round =>
        clear hL hI2 hbel2
        obtain ⟨k, c, hk1, hk2, rfl, hN, hcl, HCD, HCV, hL, hI, hbel⟩ := hrel
        by_cases hlt : k < pw
        · have hd2 : decide ((k : Int) < (pw : Int)) = true := by simp; omega
          have hti := times_any _ _ c (limb X) _ hN hL (unhide HCD) (unhide HLT) (by omega) (by rw [limb_length]; omega)
          have HI := hide hI
          have HL := hide hL
          have HBEL := hide hbel
          clear hI hL hbel hN
          go_wp2_with (go_at_call 86; refine hti.mono ?_; rintro e wb ⟨nv2, c2, rfl, hN2, hcl2, hcd2, hcv2, hbb⟩)
          refine ⟨⟨k + 1, c2, by omega, by omega, by go_num, hN2, by rw [hcl2, limb_length]; omega, hide hcd2, hide (by rw [hcv2, unhide HCV, unhide HLV, Nat.pow_succ]), (unhide HL).below hbb (Nat.le_refl _), (unhide HI).below hbb (Nat.le_refl _), (unhide HBEL).trans (hbb.mono (unhide HBEL).size)⟩, by simp [intOf]; omega⟩
        · have hd2 : decide ((k : Int) < (pw : Int)) = false := by simp; omega
          have hkp : k = pw := by omega
          have hab := above_any _ _ c wl _ hN hI (unhide HCD) (unhide HWL) (by omega) (by rw [unhide HWN]; omega)
          rw [unhide HWV, unhide HCV, hkp] at hab
          have HI := hide hI
          have HBEL := hide hbel
          clear hI hL hbel hN
          by_cases hov : P < X ^ pw
          · rw [decide_eq_true hov] at hab
            have HST2 := hide (show rtl pw P (b + 1) x = rtl pw P b x by rw [unhide HST, if_pos hov])
            clear hov
            go_wp2_with (go_at_call 87; refine hab.mono ?_; rintro e wb ⟨rfl, he⟩; cases he)
            exact ⟨⟨b, x, by omega, by rw [unhide HBE]; omega, rfl, by rw [unhide HBE]; exact congrArg (Value.int .i64) (by omega), hide ((unhide HR).trans (unhide HST2)), unhide HI, unhide HBEL⟩, by simp [intOf]; omega⟩
          · rw [decide_eq_false hov] at hab
            have HST2 := hide (show rtl pw P (b + 1) x = rtl pw P b X by rw [unhide HST, if_neg hov])
            clear hov
            go_wp2_with (go_at_call 87; refine hab.mono ?_; rintro e wb ⟨rfl, he⟩; cases he)
            exact ⟨⟨b, X, by omega, by rw [unhide HBE]; have := unhide HXE; omega, rfl, by rw [unhide HBE]; exact congrArg (Value.int .i64) (by omega), hide ((unhide HR).trans (unhide HST2)), unhide HI, unhide HBEL⟩, by simp [intOf]; omega⟩

/-- The primes of the numbers from n on, so many. -/
def cnt : Nat → Nat → Nat
  | 0, _ => 0
  | f + 1, n => (if prm n then 1 else 0) + cnt f (n + 1)
theorem cnt_pos : ∀ f n, n + (f + 1) = 312 → 1 ≤ cnt (f + 1) n := by
  intro f
  induction f with
  | zero =>
    intro n h
    obtain rfl : n = 311 := by omega
    have : prm 311 = true := by decide +kernel
    simp [cnt, this]
  | succ f ih =>
    intro n h
    have := ih (n + 1) (by omega)
    show 1 ≤ (if prm n then 1 else 0) + cnt (f + 1) (n + 1)
    omega
/-- The tables behind one prime more. -/
def lay1 (t : List Nat) (k n : Nat) : List Nat := if k < 8 then (t.set (8 + k) (rt n 3)).set k (rt n 2) else t.set (8 + k) (rt n 3)
theorem lay1_length (t : List Nat) (k n : Nat) : (lay1 t k n).length = t.length := by
  unfold lay1
  split <;> simp
/-- The tables behind so many numbers from n on. -/
def gfw : Nat → Nat → Nat → List Nat → List Nat
  | 0, _, _, t => t
  | f + 1, n, k, t => if prm n then gfw f (n + 1) (k + 1) (lay1 t k n) else gfw f (n + 1) k t
def z72 : List Nat := List.replicate 72 0
theorem cnt_all : cnt 310 2 = 64 := by decide +kernel
theorem gfw_all : gfw 310 2 0 z72 = Hl ++ Kl := by decide +kernel
end Go.Proofs.YtanfolfopalbeaaDoor
namespace Go.Proofs.YtanfolfopalbeaaDoor
open Go.RowKit

theorem lenR_length (x k : Nat) : (lenR x k).length = k := by simp [lenR]
theorem padR_length (l : List UInt8) : (padR l).length = l.length + 1 + zs (l.length + 1) + 8 := by
  unfold padR
  rw [List.length_append, List.length_append, List.length_append, List.length_replicate, lenR_length]
  rfl
theorem padR_mod (l : List UInt8) : (padR l).length % 64 = 0 := by
  rw [padR_length]; unfold zs; omega
theorem padR_le (l : List UInt8) : (padR l).length ≤ l.length + 80 := by
  rw [padR_length]; unfold zs; omega
theorem H0_words : H0.words = Hl := rfl
theorem ncells_at (l : List UInt8) (j : Nat) (h : j < l.length) : (ncells l)[j]? = some (.int .u64 ((l.getD j 0).toNat : Int)) := by
  simp [ncells, List.getD, List.getElem?_eq_getElem h]
theorem range_of_urow {w : World} {g : Nat} {ty : TypeId} {l : List Nat} (h : URow w g ty l) (k : Nat) : w.rangeAt g 0 (ucells (l.take k)) := by
  intro j v hv
  rw [Nat.zero_add, cell_of_row w g j _ _ _ h, List.getElem?_toArray]
  unfold ucells at hv ⊢
  rw [List.map_take, List.getElem?_take] at hv
  split at hv
  · exact hv
  · cases hv
theorem there_of_urow {w : World} {g : Nat} {ty : TypeId} {l : List Nat} (h : URow w g ty l) : w.there g 0 l.length := by
  intro j hj
  rw [Nat.zero_add]
  exact ⟨by rw [h.cell j hj]; rfl, h.free j⟩
theorem setCells_row (g : Nat) (ty : TypeId) : ∀ (vs : List Value) (o : Nat) (w : World) (cs : Array Value), w.heap[g]? = some (.cells cs ty (0, 0)) → o + vs.length ≤ cs.size →
    (w.setCells g o vs).heap[g]? = some (.cells (cs.toList.take o ++ vs ++ cs.toList.drop (o + vs.length)).toArray ty (0, 0)) := by
  intro vs
  induction vs with
  | nil =>
    intro o w cs h _
    show w.heap[g]? = _
    rw [h]
    simp
  | cons v r ih =>
    intro o w cs h hl
    simp only [List.length_cons] at hl
    show ((w.setCell ⟨g, o, none⟩ v).setCells g (o + 1) r).heap[g]? = _
    rw [ih (o + 1) _ _ (heap_setCell_same w g o _ _ _ h) (by simp; omega)]
    congr 3
    rw [Array.toList_setIfInBounds]
    have hlt : o < cs.toList.length := by rw [Array.length_toList]; omega
    have e1 : (cs.toList.set o v).take (o + 1) = cs.toList.take o ++ [v] := by
      rw [List.take_succ_eq_append_getElem (by rw [List.length_set]; exact hlt), List.take_set_of_le (Nat.le_refl _)]
      simp
    rw [e1, List.drop_set_of_lt (by omega), show o + 1 + r.length = o + (v :: r).length by simp; omega]
    simp
theorem urow_setCells {w : World} {g : Nat} {ty : TypeId} {l l2 : List Nat} (h : URow w g ty l) (hl : l.length = l2.length) : URow (w.setCells g 0 (ucells l2)) g ty l2 := by
  unfold URow
  rw [setCells_row g ty (ucells l2) 0 w _ h (by rw [ucells_size, ucells_length]; omega)]
  congr 3
  rw [List.take_zero, List.nil_append, List.drop_eq_nil_of_le (by simp [ucells]; omega), List.append_nil]
theorem setCells_other (g k : Nat) (hk : k ≠ g) : ∀ (vs : List Value) (o : Nat) (w : World), (w.setCells g o vs).heap[k]? = w.heap[k]? := by
  intro vs
  induction vs with
  | nil => intro o w; rfl
  | cons v r ih =>
    intro o w
    show ((w.setCell ⟨g, o, none⟩ v).setCells g (o + 1) r).heap[k]? = _
    rw [ih, heap_setCell_other _ _ _ _ (by exact hk)]
theorem below_setCells {B g : Nat} (hg : B ≤ g) : ∀ (vs : List Value) (o : Nat) {a w : World}, Below B a w → Below B a (w.setCells g o vs) := by
  intro vs
  induction vs with
  | nil => intro o a w h; exact h
  | cons v r ih => intro o a w h; exact ih (o + 1) (h.setCell (by exact hg) v)
theorem setCells_size (g : Nat) : ∀ (vs : List Value) (o : Nat) (w : World), (w.setCells g o vs).heap.size = w.heap.size := by
  intro vs
  induction vs with
  | nil => intro o w; rfl
  | cons v r ih =>
    intro o w
    show ((w.setCell ⟨g, o, none⟩ v).setCells g (o + 1) r).heap.size = _
    rw [ih]
    simp [World.setCell]
theorem dig_at (s : S8) (hs : s.ok) (q m : Nat) (hq : q < 8) (hm : m < 4) : ((dig s).getD (4 * q + m) 0).toNat = s.words.getD q 0 / 2 ^ (24 - m * 8) % 256 := by
  obtain ⟨h1, h2, h3, h4, h5, h6, h7, h8⟩ := hs
  have e1 : q = 0 ∨ q = 1 ∨ q = 2 ∨ q = 3 ∨ q = 4 ∨ q = 5 ∨ q = 6 ∨ q = 7 := by omega
  have e2 : m = 0 ∨ m = 1 ∨ m = 2 ∨ m = 3 := by omega
  have key : ∀ (l : List UInt8) (x : Nat), x < 4294967296 → l = w4 x → (l.getD m 0).toNat = x / 2 ^ (24 - m * 8) % 256 := by
    intro l x hx hl
    subst hl
    rcases e2 with rfl | rfl | rfl | rfl <;> simp [w4] <;> omega
  have hw := getD_lt s.words (words_lt s ⟨h1, h2, h3, h4, h5, h6, h7, h8⟩) q
  have hd : ((dig s).drop (4 * q)).take 4 = w4 (s.words.getD q 0) := by
    rcases e1 with rfl | rfl | rfl | rfl | rfl | rfl | rfl | rfl <;> rfl
  have := key _ _ hw hd
  rw [← this, List.getD, List.getD, List.getElem?_take_of_lt hm, List.getElem?_drop]
theorem take_put (d : List UInt8) (i : Nat) (hd : d.length = 32) (hi : i < 32) : (d.take i ++ List.replicate (32 - i) 0).set i (d.getD i 0) = d.take (i + 1) ++ List.replicate (32 - (i + 1)) 0 := by
  rw [List.set_append_right _ _ (by rw [List.length_take]; omega), List.length_take, Nat.min_eq_left (by omega), Nat.sub_self, show 32 - i = (32 - (i + 1)) + 1 by omega, List.replicate_succ, List.set_cons_zero, List.take_succ_eq_append_getElem (by omega), List.append_assoc]
  simp [List.getD, List.getElem?_eq_getElem (show i < d.length by omega)]
theorem byte_val (x e : Nat) : (((x : Int) / 2 ^ e).tmod 256 % 256 : Int) = ((x / 2 ^ e % 256 : Nat) : Int) := by
  have h : ((x : Int) / 2 ^ e) = ((x / 2 ^ e : Nat) : Int) := by simp
  rw [h]
  generalize x / 2 ^ e = y
  rw [Int.tmod_eq_emod_of_nonneg (by omega)]
  omega
theorem info_tab : (Tryd.prog.info? 26).map (·.size) = some 72 := by kernel_rfl

/-- What stands still while the blocks of a text are taken in. -/
structure NewW (w : World) (tb : List Nat) (gp : Nat) (pl : List UInt8) (wr : World) : Prop where
  pc : ∀ j, j < pl.length → wr.cell? ⟨gp, j, none⟩ = some (.int .u64 ((pl.getD j 0).toNat : Int))
  rt : URow wr w.heap.size 26 tb
  rz : BRow wr (w.heap.size + 1) 31 z32
  hb : Below w.heap.size w wr
  gl : gp < wr.heap.size
theorem NewW.heap {w : World} {tb : List Nat} {gp : Nat} {pl : List UInt8} {wr wq : World} (h : NewW w tb gp pl wr) (hs : wr.heap.size ≤ wq.heap.size) (hb : Below w.heap.size w wq) (h1 : wq.heap[gp]? = wr.heap[gp]?) (h2 : wq.heap[w.heap.size]? = wr.heap[w.heap.size]?) (h3 : wq.heap[w.heap.size + 1]? = wr.heap[w.heap.size + 1]?) : NewW w tb gp pl wq :=
  ⟨fun j hj => by rw [World.cell?_of_block h1]; exact h.pc j hj, by unfold URow; rw [h2]; exact h.rt, by unfold BRow; rw [h3]; exact h.rz, hb, Nat.lt_of_lt_of_le h.gl hs⟩

/-- How long a slice is. -/
def lenV : Value → Nat
  | .slice _ m _ => m
  | _ => 0
theorem lenV_slice (a : Option Addr) (m c : Nat) : lenV (.slice a m c) = m := rfl
theorem nums_of_new {w : World} {tb : List Nat} {gp : Nat} {pl : List UInt8} {wr : World} (h : NewW w tb gp pl wr) (k : Nat) (hk : k + 64 ≤ pl.length) : NumsAt wr gp k ((pl.drop k).take 64) := by
  refine ⟨h.gl, fun j hj => ?_⟩
  rw [h.pc (k + j) (by omega)]
  congr 3
  rw [List.getD, List.getD, List.getElem?_take_of_lt hj, List.getElem?_drop]

theorem rblock_tb {tb : List Nat} (ht : Hl ++ Kl = tb) (s : S8) (g off cap : Nat) (bl : List UInt8) (w : World) (hs : s.ok) (hb : bl.length = 64) (hN : NumsAt w g off bl) :
    Calls Tryd.prog 54 #[.agg (ucells tb).toArray, .agg (ucells s.words).toArray, .slice (some ⟨g, off, none⟩) 64 cap] w fun e w' => e = .returned (.agg (ucells (blk s bl).words).toArray) ∧ Below w.heap.size w w' := by
  subst ht
  exact rblock_any s g off cap bl w hs hb hN
theorem nums_drew {w : World} {g off : Nat} {bl : List UInt8} (h : NumsAt w g off bl) : NumsAt w.drew g off bl := ⟨h.1, h.2⟩
theorem below_drew {B : Nat} {w w' : World} (h : Below B w.drew w') : Below B w w' := ⟨h.os, h.tape, h.output, h.size, h.block⟩

set_option maxRecDepth 100000 in
set_option maxHeartbeats 1600000 in
theorem rnew_any (s : ByteArray) (w : World) (hs : s.size ≤ 1048576) :
    Calls Tryd.prog 17 #[tabV, .string s] w fun e w' => e = .returned (.agg (bcells (dig (cmp (padR s.data.toList).length H0 (padR s.data.toList)))).toArray) ∧ Below w.heap.size w w' := by
  unfold tabV
  have htl := tab_length
  have HTK := hide (show (Hl ++ Kl).take 8 = H0.words from rfl)
  generalize hte : Hl ++ Kl = tb at htl HTK ⊢
  have HTE := hide hte
  clear hte
  go_enter Tryd.func17, Tryd.ntmps17
  go_wp2_with fail
  rw [← z32_cells]
  have g0 : ((w.alloc (.cells (ucells tb).toArray 26)).alloc (.cells (bcells z32).toArray 31)).heap[w.heap.size]? = some (.cells (ucells tb).toArray 26 (0, 0)) := heap_alloc2_old w _ _
  have g1 : ((w.alloc (.cells (ucells tb).toArray 26)).alloc (.cells (bcells z32).toArray 31)).heap[w.heap.size + 1]? = some (.cells (bcells z32).toArray 31 (0, 0)) := heap_alloc2_new w _ _
  have hb0 : Below w.heap.size w ((w.alloc (.cells (ucells tb).toArray 26)).alloc (.cells (bcells z32).toArray 31)) := ((Below.refl _ _).alloc (Nat.le_refl _) _).alloc (by simp) _
  generalize ((w.alloc (.cells (ucells tb).toArray 26)).alloc (.cells (bcells z32).toArray 31)) = W0 at g0 g1 hb0 ⊢
  refine (rpad_any s W0 hs).mono ?_
  rintro e w1 ⟨v, rfl, hown, hb1⟩
  have hm := padR_mod s.data.toList
  have hle := padR_le s.data.toList
  have hle2 : s.data.toList.length = s.size := rfl
  have hpos : 0 < (padR s.data.toList).length := by rw [padR_length]; omega
  generalize hpe : padR s.data.toList = pl at hown hm hle hpos
  have HPE := hide hpe
  clear hpe
  obtain ⟨gp, cp, rfl, hgp, hgpl⟩ := hown.form hpos
  have hbel := hb0.trans (hb1.mono hb0.size)
  have hz0 := hb0.size
  have hz1 := hb1.size
  have hl1 := lt_of_block g1
  have hnw : NewW w tb gp pl w1 := by
    refine ⟨fun j hj => ?_, ?_, ?_, hbel, hgpl⟩
    · have := hown.cells (g := gp) rfl j _ (ncells_at pl j hj)
      rwa [Addr.add_lit, Nat.zero_add] at this
    · unfold URow; rw [hb1.block _ (lt_of_block g0)]; exact g0
    · unfold BRow; rw [hb1.block _ hl1]; exact g1
  have hcp : pl.length ≤ cp ∧ cp ≤ maxLen := by
    rcases hown.2 with ⟨h, _⟩ | ⟨g', cap', cur, h, _, _, h1, h2, _⟩
    · cases h
    · injection h with _ _ h3
      subst h3
      exact ⟨h1, h2⟩
  have L1 := hide (range_of_urow hnw.rt 8)
  rw [unhide HTK] at L1
  have G1 := hide (show (Tryd.prog.info? 23).map (·.size) = some (ucells H0.words).length by rw [ucells_length]; exact info_u8w)
  have G2 := hide (show (Tryd.prog.info? 23).map (·.size) = some (ucells H0.words).toArray.size by rw [ucells_size]; exact info_u8w)
  have G3 := hide (show (ucells z8).toArray.size = (ucells H0.words).toArray.size by rw [ucells_size, ucells_size]; rfl)
  have hH : H0.words.length = 8 := rfl
  have HH := hide H0_ok
  generalize hst : H0.words = h0 at L1 G1 G2 G3 hH
  have HST := hide hst
  have HNW := hide hnw
  clear hown hb1 hb0 g0 g1 hbel hnw HTK hst
  go_wp2_with (first | ((with_reducible refine at_load ?_); refine wpList_load_mid rfl 23 _ rfl w.heap.size 0 rfl (ucells h0) _ (unhide L1) Tryd.underlying23 rfl (unhide G1) ?_) | ((with_reducible refine at_store ?_); refine wpList_store_row rfl 23 _ _ rfl w1.heap.size (ucells h0).toArray rfl rfl 23 _ (heap_alloc_new w1 _) (unhide G2) (unhide G3) (ucells_one h0) ?_))
  have hnw : NewW w tb gp pl ((w1.alloc (.cells (ucells z8).toArray 23)).setRow w1.heap.size (ucells h0).toArray) :=
    (unhide HNW).heap (by rw [setRow_size]; simp) (below_row ((unhide HNW).hb.alloc (by omega) _) (by omega) _) (heap_put_old w1 _ _ _ _ hgpl) (heap_put_old w1 _ _ _ _ (by omega)) (heap_put_old w1 _ _ _ _ (by omega))
  have hv0 : URow ((w1.alloc (.cells (ucells z8).toArray 23)).setRow w1.heap.size (ucells h0).toArray) w1.heap.size 23 h0 := heap_put_new _ _ _ _
  have hH1 : gp ≠ w1.heap.size := by omega
  have hH2 : w.heap.size + 1 < w1.heap.size := by omega
  rw [← z8_cells]
  generalize ((w1.alloc (.cells (ucells z8).toArray 23)).setRow w1.heap.size (ucells h0).toArray) = W5 at hnw hv0 ⊢
  clear HNW L1 G1 G2 G3
  generalize w1.heap.size = H at *
  rw [← unhide HST] at hv0
  have hcp1 := hcp.1
  have hcp2 := hcp.2
  clear hcp
  simp only [Act.put]
  go_loopw [5] (fun v wr => ∃ (k f : Nat) (st : S8) (c : Nat) (p : Option Addr), 64 * k ≤ pl.length ∧ v = .slice p (pl.length - 64 * k) c ∧ (0 < pl.length - 64 * k → p = some ⟨gp, 64 * k, none⟩) ∧ pl.length - 64 * k ≤ c ∧ c ≤ maxLen ∧ st.ok ∧ pl.length - 64 * k ≤ f ∧ Hid (cmp pl.length H0 pl = cmp f st (pl.drop (64 * k))) ∧ URow wr H 23 st.words ∧ NewW w tb gp pl wr) (fun v _ => lenV v)
  case atStart => exact ⟨0, pl.length, H0, cp, _, by omega, rfl, fun _ => rfl, hcp1, hcp2, unhide HH, by omega, hide rfl, hv0, hnw⟩
  case round =>
    obtain ⟨k, f, st, c, p, hk, rfl, hp, hc1, hc2, hok, hf, HC, hv, hnw⟩ := hrel
    generalize hre : pl.length - 64 * k = r at hp hc1 hf ⊢
    by_cases hr : 0 < r
    · have h64 : 64 ≤ r := by omega
      cases hp hr
      clear hp
      have HST2 := hide (show cmp f st (pl.drop (64 * k)) = cmp (f - 1) (blk st ((pl.drop (64 * k)).take 64)) (pl.drop (64 * (k + 1))) by
        have h1 : f = (f - 1) + 1 := by omega
        rw [h1, cmp_step _ _ _ (by rw [List.length_drop]; omega), List.drop_drop, show 64 * k + 64 = 64 * (k + 1) by omega]
        rfl)
      have hN := nums_of_new hnw (64 * k) (by omega)
      have hbl : ((pl.drop (64 * k)).take 64).length = 64 := by rw [List.length_take, List.length_drop]; omega
      have hwl := words_length st
      have hR1 : wr.drew.rangeAt w.heap.size 0 (ucells tb) := by have := range_of_urow hnw.rt 72; rw [List.take_of_length_le (by omega)] at this; simpa using this
      have hR2 : wr.drew.rangeAt H 0 (ucells st.words) := by have := range_of_urow hv 8; rw [List.take_of_length_le (by omega)] at this; simpa using this
      have G1 := hide (show (Tryd.prog.info? 26).map (·.size) = some (ucells tb).length by rw [ucells_length, htl]; exact info_tab)
      have G2 := hide (show (Tryd.prog.info? 23).map (·.size) = some (ucells st.words).length by rw [ucells_length]; exact info_u8w)
      have d1 : decide ((0 : Int) < (r : Int)) = true := by simp; omega
      have i1 : (64 : Int) ≤ (r : Int) := by omega
      have i2 : (64 : Int) ≤ (c : Int) := by omega
      have i3 : (r : Int) ≤ (c : Int) := by omega
      have HV := hide hv
      have HNW := hide hnw
      have HN := hide hN
      clear hv hnw hN
      generalize (pl.drop (64 * k)).take 64 = bl at *
      go_wp2_with fail
      refine wp_region_held_drew (S := fun w' => w'.rangeAt w.heap.size 0 (ucells tb)) (by kernel_rfl) hR1 (fun hHeld => ?_)
      refine wpAnyH_take (i := 0) rfl (by kernel_rfl) (by kernel_rfl) (by kernel_rfl) (fun _ _ _ h => h)
          (yieldsIf_load_mid (by rfl) 26 _ rfl w.heap.size 0 rfl (ucells tb) _ (fun _ h => h) Tryd.underlying26 rfl (unhide G1)) hHeld ?_
      refine wpAnyH_take (i := 2) (v := .slice (some ⟨gp, 64 * k, none⟩) r c) rfl (by kernel_rfl) (by kernel_rfl) (by kernel_rfl) (fun _ _ _ h => h) (Or.inl ⟨by rfl, fun _ _ => by go_simp⟩) hHeld ?_
      refine wpAnyH_take (i := 3) (v := .slice (some ⟨gp, 64 * k, none⟩) 64 c) rfl (by kernel_rfl) (by kernel_rfl) (by kernel_rfl) (fun _ _ _ h => h) (Or.inl ⟨by rfl, fun _ _ => by go_simp⟩) hHeld ?_
      refine wpAnyH_ready (rs := [1]) (by kernel_rfl) (by simp) ?_
      refine AllReadyH.cons rfl (fun K hK => ?_) AllReadyH.nil
      rw [if_pos (by rfl)]
      refine wp_load_mid 23 _ rfl H 0 rfl (ucells st.words) _ hR2 Tryd.underlying23 rfl (unhide G2) ?_
      refine hK.out _ _ hHeld (fun hHeld => ?_)
      clear hK K
      refine wpAnyH_ready (rs := [4]) (by kernel_rfl) (by simp) ?_
      refine AllReadyH.cons rfl (fun K hK => ?_) AllReadyH.nil
      go_simp
      go_at_call 54
      refine (rblock_tb (unhide HTE) st gp (64 * k) c bl _ hok hbl (nums_drew (unhide HN))).mono ?_
      rintro e w3 ⟨rfl, hb3⟩
      have hv3 : URow w3 H 23 st.words := by
        unfold URow; rw [hb3.block _ (by simpa using (unhide HV).lt)]; exact unhide HV
      have hnw3 : NewW w tb gp pl w3 := by
        have h0 := unhide HNW
        exact h0.heap (by simpa using hb3.size) (h0.hb.trans ((below_drew hb3).mono h0.hb.size)) (hb3.block _ (by simpa using h0.gl)) (hb3.block _ (by simpa using h0.rt.lt)) (hb3.block _ (by simpa using lt_of_block h0.rz))
      dsimp only
      have hR3 : w3.rangeAt w.heap.size 0 (ucells tb) := by have := range_of_urow hnw3.rt 72; rwa [List.take_of_length_le (by omega)] at this
      refine hK.out _ _ hR3 (fun _ => ?_)
      clear hK K
      have hT : w3.there H 0 (ucells (blk st bl).words).toArray.size := by have := there_of_urow hv3; rwa [words_length, ← words_length (blk st bl), ← ucells_size] at this
      have G3 := hide (show (Tryd.prog.info? 23).map (·.size) = some (ucells (blk st bl).words).toArray.size by rw [ucells_size]; exact info_u8w)
      refine wpAnyH_ready (rs := [5]) (by kernel_rfl) (by simp) ?_
      refine AllReadyH.cons rfl (fun K hK => ?_) AllReadyH.nil
      rw [if_pos (by rfl)]
      refine wp_store_mid 23 _ _ rfl H 0 _ rfl rfl hT (unhide G3) (ucells_one _) ?_
      have hv4 : URow (w3.setCells H 0 (ucells (blk st bl).words)) H 23 (blk st bl).words := urow_setCells hv3 (by rw [words_length, words_length])
      have hnw4 : NewW w tb gp pl (w3.setCells H 0 (ucells (blk st bl).words)) :=
        hnw3.heap (by rw [setCells_size]; exact Nat.le_refl _) (below_setCells (by omega) _ _ hnw3.hb) (setCells_other _ _ hH1 _ _ _) (setCells_other _ _ (by omega) _ _ _) (setCells_other _ _ (by omega) _ _ _)
      rw [show (ucells (blk st bl).words).toArray.toList = ucells (blk st bl).words from rfl]
      have hR4 : (w3.setCells H 0 (ucells (blk st bl).words)).rangeAt w.heap.size 0 (ucells tb) := by have := range_of_urow hnw4.rt 72; rwa [List.take_of_length_le (by omega)] at this
      generalize w3.setCells H 0 (ucells (blk st bl).words) = w4 at hv4 hnw4 hR4 ⊢
      refine hK.out _ _ hR4 (fun _ => ?_)
      clear hK K
      refine wpAnyH_done (by kernel_rfl) ?_ _
      go_wp2_with fail
      refine ⟨⟨k + 1, f - 1, blk st bl, c - 64, _, by omega, by rw [show pl.length - 64 * (k + 1) = r - 64 by omega], fun h => ?_, by omega, by omega, plus_ok _ _, by omega, hide ((unhide HC).trans (unhide HST2)), hv4, hnw4⟩, ?_⟩
      · rw [if_neg (by omega), show 64 * k + 64 = 64 * (k + 1) by omega]
      · simp only [lenV]; omega
    · have hr0 : r = 0 := by omega
      subst hr0
      clear hp
      have HE := hide (show cmp pl.length H0 pl = st by rw [unhide HC]; exact cmp_end _ _ _ (by rw [List.length_drop]; omega))
      have d1 : decide ((0 : Int) < ((0 : Nat) : Int)) = false := rfl
      have hz := hnw.hb.size
      go_wp2_with fail
      rw [← z32_cells]
      have hv2 : URow (wr.alloc (.cells (bcells z32).toArray 31)) H 23 st.words := by
        unfold URow; rw [Below.heap_alloc _ _ _ hv.lt]; exact hv
      have hrz2 : BRow (wr.alloc (.cells (bcells z32).toArray 31)) (w.heap.size + 1) 31 z32 := by
        unfold BRow; rw [Below.heap_alloc _ _ _ (lt_of_block hnw.rz)]; exact hnw.rz
      have ho2 : BRow (wr.alloc (.cells (bcells z32).toArray 31)) wr.heap.size 31 z32 := heap_alloc_new wr _
      have hbe2 : Below w.heap.size w (wr.alloc (.cells (bcells z32).toArray 31)) := hnw.hb.alloc hz _
      have hHlt := hv.lt
      have HDE := hide (dig_at st hok)
      have hdl : (dig st).length = 32 := dgk_length st 8 (Nat.le_refl _)
      have hwlt := words_lt st hok
      have HSE := hide (show dig (cmp pl.length H0 pl) = dig st by rw [unhide HE])
      generalize wr.alloc (.cells (bcells z32).toArray 31) = W6 at hv2 hrz2 ho2 hbe2 ⊢
      generalize wr.heap.size = G at *
      generalize hdd : dig st = dd at HDE hdl HSE
      have hwl := words_length st
      generalize st.words = ws at hv2 HDE hwlt hwl
      clear hv hnw HC HE hdd hok
      go_loopw [8] (fun v wr => ∃ i : Nat, i ≤ 32 ∧ v = .int .i64 i ∧ BRow wr G 31 (dd.take i ++ List.replicate (32 - i) 0) ∧ URow wr H 23 ws ∧ BRow wr (w.heap.size + 1) 31 z32 ∧ Below w.heap.size w wr) (fun v _ => 32 - (intOf v).toNat)
      case atStart => exact ⟨0, by omega, rfl, ho2, hv2, hrz2, hbe2⟩
      case round =>
        obtain ⟨i, hi, rfl, hrow, hv, hrz, hbel⟩ := hrel
        by_cases hlt : i < 32
        · have hq : i / 4 < 8 := by omega
          have hm : i % 4 < 4 := by omega
          have HB := hide ((unhide HDE) (i / 4) (i % 4) hq hm)
          rw [show 4 * (i / 4) + i % 4 = i by omega] at HB
          have ch := hv.cell (i / 4) (by omega)
          have co := hrow.cell i (by rw [List.length_append, List.length_take, List.length_replicate]; omega)
          have fo := hrow.free i
          have bx := getD_lt ws hwlt (i / 4)
          have e1 : Int.tdiv (i : Int) 4 = ((i / 4 : Nat) : Int) := by rw [Int.tdiv_eq_ediv_of_nonneg (by omega)]; omega
          have e2 : Int.tmod (i : Int) 4 = ((i % 4 : Nat) : Int) := by rw [Int.tmod_eq_emod_of_nonneg (by omega)]; omega
          generalize ws.getD (i / 4) 0 = x at ch HB bx
          have hqe : i / 4 * 4 + i % 4 = i := by omega
          generalize i / 4 = q at *
          generalize i % 4 = m at *
          have hd : decide ((i : Int) < 32) = true := by simp; omega
          go_wp2_with fail
          have hval : (((x : Int) / 2 ^ (24 - m * 8)).tmod 256 % 256 : Int) = ((dd.getD i 0).toNat : Int) := by rw [unhide HB]; exact byte_val x _
          rw [hval]
          refine ⟨⟨i + 1, by omega, by go_num, by rw [← take_put dd i hdl hlt]; exact hrow.set i _, hv.other (by omega), ?_, hbel.setCell (by exact hz) _⟩, by simp [intOf]; omega⟩
          unfold BRow
          rw [heap_setCell_other _ _ _ _ (by show w.heap.size + 1 ≠ G; omega)]
          exact hrz
        · have hie : i = 32 := by omega
          rw [hie, show 32 - 32 = 0 from rfl, List.replicate_zero, List.append_nil, List.take_of_length_le (by omega)] at hrow
          have hsd : (bcells dd).toArray.size = 32 := by rw [bcells_size, hdl]
          have K1 : Hid (wr.heap[G]? = some (.cells (bcells dd).toArray 31 (0, 0))) := hide hrow
          have K2 : Hid (wr.heap[w.heap.size + 1]? = some (.cells (bcells z32).toArray 31 (0, 0))) := hide hrz
          have K3 := hide (show (Tryd.prog.info? 31).map (·.size) = some (bcells dd).toArray.size by rw [hsd]; exact info_dg)
          have K4 := hide (show (bcells z32).toArray.size = (bcells dd).toArray.size by rw [hsd, bcells_size]; rfl)
          have hd : decide ((i : Int) < 32) = false := by simp; omega
          clear hrow hv hrz hie hsd hdl
          go_wp2_with (first | ((with_reducible refine at_load ?_); refine wpList_load_row rfl 31 _ rfl G rfl 31 (bcells dd).toArray (0, 0) _ (unhide K1) Tryd.underlying31 rfl (unhide K3) ?_) | ((with_reducible refine at_store ?_); refine wpList_store_row rfl 31 _ _ rfl (w.heap.size + 1) (bcells dd).toArray rfl rfl 31 _ (unhide K2) (unhide K3) (unhide K4) (bcells_one dd) ?_))
          refine bodyPost_ret (v := .agg (bcells dd).toArray) ?_ rfl ⟨by rw [unhide HPE, unhide HSE], below_row hbel (by omega) _⟩
          exact results_cell_row Tryd.results17 _ _ (w.heap.size + 1) 31 _ (0, 0) _ rfl (setRow_heap _ _ _ _ _ _ (unhide K2)) Tryd.underlying31 rfl (unhide K3)
end Go.Proofs.YtanfolfopalbeaaDoor
namespace Go.Proofs.YtanfolfopalbeaaDoor
open Go.RowKit

theorem z72_length : z72.length = 72 := rfl
theorem info_zero : (Tryd.prog.info? 26).map (·.zero) = some (some (.agg (ucells z72).toArray)) := by kernel_rfl
theorem zero_tab (w : World) : Sem.run Tryd.prog (zeroValue 26) w = .ok (.agg (ucells z72).toArray) w := by
  have h := info_zero
  cases hi : Tryd.prog.info? 26 with
  | none => rw [hi] at h; cases h
  | some i =>
    rw [hi] at h
    have hz : i.zero = some (.agg (ucells z72).toArray) := by injection h
    generalize (ucells z72).toArray = cs at hz
    simp [zeroValue, typeInfo, hi, hz]

theorem gfw_step (f n k : Nat) (t : List Nat) : gfw (f + 1) n k t = if prm n then gfw f (n + 1) (k + 1) (lay1 t k n) else gfw f (n + 1) k t := rfl

set_option maxRecDepth 100000 in
set_option maxHeartbeats 1600000 in
theorem newsums_any (w : World) :
    Calls Tryd.prog 13 #[] w fun e w' => e = .returned tabV ∧ Below w.heap.size w w' := by
  have hzt := zero_tab
  have hzl := z72_length
  have HALL := hide gfw_all
  have HCNT := hide cnt_all
  generalize z72 = z7 at hzt hzl HALL
  obtain ⟨T, HT0⟩ : ∃ T, Hid (T = gfw 310 2 0 z7) := ⟨_, hide rfl⟩
  rw [← unhide HT0] at HALL
  go_enter Tryd.func13, Tryd.ntmps13
  go_wp2
  have g0 : URow ((w.alloc (.cells (ucells z7).toArray 26)).alloc (.cells (ucells z7).toArray 26)) w.heap.size 26 z7 := heap_alloc2_old w _ _
  have g1 : URow ((w.alloc (.cells (ucells z7).toArray 26)).alloc (.cells (ucells z7).toArray 26)) (w.heap.size + 1) 26 z7 := heap_alloc2_new w _ _
  have hb0 : Below w.heap.size w ((w.alloc (.cells (ucells z7).toArray 26)).alloc (.cells (ucells z7).toArray 26)) := ((Below.refl _ _).alloc (Nat.le_refl _) _).alloc (by simp) _
  generalize ((w.alloc (.cells (ucells z7).toArray 26)).alloc (.cells (ucells z7).toArray 26)) = W0 at g0 g1 hb0 ⊢
  clear hzt
  go_loopw [2, 3] (fun tk tn wr => ∃ (f n k : Nat) (t : List Nat), n + f = 312 ∧ 2 ≤ n ∧ tn = .int .i64 n ∧ tk = .int .i64 k ∧ Hid (k + cnt f n = 64) ∧ t.length = 72 ∧ Hid (T = gfw f n k t) ∧ URow wr (w.heap.size + 1) 26 t ∧ URow wr w.heap.size 26 z7 ∧ Below w.heap.size w wr) (fun _ tn _ => 312 - (intOf tn).toNat)
  case atStart => exact ⟨310, 2, 0, z7, rfl, Nat.le_refl _, rfl, rfl, hide (by rw [unhide HCNT]), hzl, HT0, g1, g0, hb0⟩
  case round =>
    clear g0 g1 hb0 HT0
    obtain ⟨f, n, k, t, hf, hn2, rfl, rfl, HK, htl, HG, g1, g0, hbel⟩ := hrel
    cases f with
    | zero =>
      have hk : k = 64 := by have := unhide HK; simpa [cnt] using this
      have hd : decide ((k : Int) < 64) = false := by simp; omega
      have HT := hide (show tabV = .agg (ucells t).toArray by unfold tabV; rw [← unhide HALL, unhide HG]; rfl)
      have K1 : Hid (wr.heap[w.heap.size + 1]? = some (.cells (ucells t).toArray 26 (0, 0))) := hide g1
      have K2 : Hid (wr.heap[w.heap.size]? = some (.cells (ucells z7).toArray 26 (0, 0))) := hide g0
      have K3 := hide (show (Tryd.prog.info? 26).map (·.size) = some (ucells t).toArray.size by rw [ucells_size, htl]; exact info_tab)
      have K4 := hide (show (ucells z7).toArray.size = (ucells t).toArray.size by rw [ucells_size, ucells_size, htl, hzl])
      clear g0 g1 HG hk
      go_wp2_with (first | ((with_reducible refine at_load ?_); refine wpList_load_row rfl 26 _ rfl (w.heap.size + 1) rfl 26 (ucells t).toArray (0, 0) _ (unhide K1) Tryd.underlying26 rfl (unhide K3) ?_) | ((with_reducible refine at_store ?_); refine wpList_store_row rfl 26 _ _ rfl w.heap.size (ucells t).toArray rfl rfl 26 _ (unhide K2) (unhide K3) (unhide K4) (ucells_one t) ?_))
      refine bodyPost_ret (v := .agg (ucells t).toArray) ?_ rfl ⟨by rw [unhide HT], below_row hbel (Nat.le_refl _) _⟩
      exact results_cell_row Tryd.results13 _ _ w.heap.size 26 _ (0, 0) _ rfl (setRow_heap _ _ _ _ _ _ (unhide K2)) Tryd.underlying26 rfl (unhide K3)
    | succ f =>
      have hcp := cnt_pos f n hf
      have hk : k < 64 := by have := unhide HK; omega
      have hd : decide ((k : Int) < 64) = true := by simp; omega
      have hpr := fun wq => prime_any n wq hn2 (by omega)
      have hg1l := g1.lt
      have hbs := hbel.size
      by_cases hp : prm n = true
      · rw [hp] at hpr
        have HK2 := hide (show k + 1 + cnt f (n + 1) = 64 by have h9 := unhide HK; simp only [cnt, hp, if_true] at h9; omega)
        have HG2 := hide (show T = gfw f (n + 1) (k + 1) (lay1 t k n) by rw [unhide HG, gfw_step, if_pos hp])
        have hr3 : ∀ wq, Calls Tryd.prog 50 #[.int .i64 n, .int .i64 3] wq fun e w' => e = .returned (.int .u64 (rt n 3)) ∧ Below wq.heap.size wq w' := fun wq => rooted_any n 3 wq (by omega) (by omega)
        have hr2 : ∀ wq, Calls Tryd.prog 50 #[.int .i64 n, .int .i64 2] wq fun e w' => e = .returned (.int .u64 (rt n 2)) ∧ Below wq.heap.size wq w' := fun wq => rooted_any n 2 wq (by omega) (by omega)
        have HLY := hide (show lay1 t k n = if k < 8 then (t.set (8 + k) (rt n 3)).set k (rt n 2) else t.set (8 + k) (rt n 3) from rfl)
        have hll := lay1_length t k n
        generalize rt n 3 = y3 at hr3 HLY
        generalize rt n 2 = y2 at hr2 HLY
        generalize lay1 t k n = t2 at HLY HG2 hll
        have G1 := hide g1
        have G0 := hide g0
        have HBEL := hide hbel
        clear g1 g0 hbel HG HK
        have i1 : (k : Int) < 64 := by omega
        by_cases h8 : k < 8
        · have hd8 : decide ((k : Int) < 8) = true := by simp; omega
          rw [if_pos h8] at HLY
          go_wp2_with (first | (go_at_call 49; (with_reducible refine (hpr _).mono ?_); rintro e wa ⟨rfl, he⟩; cases he) | (go_at_call 50; first | ((with_reducible refine (hr3 _).mono ?_); rintro e wb ⟨rfl, hbb⟩; have g3 := (unhide G1).below hbb (Nat.le_refl _); have c3 := g3.cell (8 + k) (by omega); have f3 := g3.free (8 + k); have G3 := hide g3; clear g3) | ((with_reducible refine (hr2 _).mono ?_); rintro e wc ⟨rfl, hbc⟩; have g4 := ((unhide G3).set (8 + k) y3).below hbc (Nat.le_refl _); have c4 := g4.cell k (by rw [List.length_set]; omega); have f4 := g4.free k; have G4 := hide g4; clear g4)))
          have g0b := (unhide G0).below hbb (Nat.le_refl _)
          have hB1 : Below w.heap.size w (wb.setCell ⟨w.heap.size + 1, 8 + k, none⟩ (.int .u64 (y3 : Int))) := ((unhide HBEL).trans (hbb.mono hbs)).setCell (by show w.heap.size ≤ w.heap.size + 1; omega) _
          have hB2 := hB1.trans (hbc.mono hB1.size)
          have g0c := (g0b.other (g' := w.heap.size + 1) (j := 8 + k) (v := .int .u64 (y3 : Int)) (by omega)).below hbc (Nat.le_refl _)
          refine ⟨⟨f, n + 1, k + 1, t2, by omega, by omega, by go_num, by go_num, HK2, by rw [hll]; exact htl, HG2, by rw [unhide HLY]; exact (unhide G4).set k y2, g0c.other (by omega), hB2.setCell (by show w.heap.size ≤ w.heap.size + 1; omega) _⟩, by simp [intOf]; omega⟩
        · have hd8 : decide ((k : Int) < 8) = false := by simp; omega
          rw [if_neg h8] at HLY
          go_wp2_with (first | (go_at_call 49; (with_reducible refine (hpr _).mono ?_); rintro e wa ⟨rfl, he⟩; cases he) | (go_at_call 50; (with_reducible refine (hr3 _).mono ?_); rintro e wb ⟨rfl, hbb⟩; have g3 := (unhide G1).below hbb (Nat.le_refl _); have c3 := g3.cell (8 + k) (by omega); have f3 := g3.free (8 + k); have G3 := hide g3; clear g3))
          have g0b := (unhide G0).below hbb (Nat.le_refl _)
          have hB1 : Below w.heap.size w (wb.setCell ⟨w.heap.size + 1, 8 + k, none⟩ (.int .u64 (y3 : Int))) := ((unhide HBEL).trans (hbb.mono hbs)).setCell (by show w.heap.size ≤ w.heap.size + 1; omega) _
          refine ⟨⟨f, n + 1, k + 1, t2, by omega, by omega, by go_num, by go_num, HK2, by rw [hll]; exact htl, HG2, by rw [unhide HLY]; exact (unhide G3).set (8 + k) y3, g0b.other (by omega), hB1⟩, by simp [intOf]; omega⟩
      · have hp2 : prm n = false := by simpa using hp
        rw [hp2] at hpr
        have HK2 := hide (show k + cnt f (n + 1) = 64 by have h9 := unhide HK; simp only [cnt, hp2, Bool.false_eq_true, if_false] at h9; omega)
        have HG2 := hide (show T = gfw f (n + 1) k t by rw [unhide HG, gfw_step, if_neg hp])
        clear HG HK hp hp2
        go_wp2_with (go_at_call 49; (with_reducible refine (hpr _).mono ?_); rintro e wa ⟨rfl, he⟩; cases he)
        exact ⟨⟨f, n + 1, k, t, by omega, by omega, by go_num, rfl, HK2, htl, HG2, g1, g0, hbel⟩, by simp [intOf]; omega⟩
end Go.Proofs.YtanfolfopalbeaaDoor
namespace Go.Proofs.YtanfolfopalbeaaDoor
open Go.RowKit

theorem rOld_step (x : Nat) (c : UInt8) (hx : x < 4294967296) : (IntKind.u64.wrap (bits BinOp.xor IntKind.u64 (x : Int) (IntKind.u64.wrap (c.toNat : Int)) * 16777619)).tmod 4294967296 = ((wkStep x c : Nat) : Int) := by
  have hc : c.toNat < 256 := c.toNat_lt
  have hy : x ^^^ c.toNat < 4294967296 := by
    have := Nat.xor_lt_two_pow (n := 32) (x := x) (y := c.toNat) (by omega) (by omega)
    omega
  rw [show IntKind.u64.wrap (c.toNat : Int) = (c.toNat : Int) by rw [IntKind.wrap_u64]; omega, u64_xor_nat x c.toNat (by omega) (by omega)]
  have hw : IntKind.u64.wrap (((x ^^^ c.toNat : Nat) : Int) * 16777619) = ((x ^^^ c.toNat : Nat) : Int) * 16777619 := by rw [IntKind.wrap_u64]; omega
  rw [hw, Int.tmod_eq_emod_of_nonneg (by omega)]
  unfold wkStep
  omega
theorem rOld_end (x : Nat) (hx : x < 4294967296) : IntKind.u16.wrap (bits BinOp.xor IntKind.u64 ((x : Int) / 65536) ((x : Int) % 65536)) = ((x / 65536 ^^^ x % 65536 : Nat) : Int) := by
  have hy : x / 65536 ^^^ x % 65536 < 65536 := by
    have := Nat.xor_lt_two_pow (n := 16) (x := x / 65536) (y := x % 65536) (by omega) (by omega)
    omega
  rw [show ((x : Int) / 65536) = ((x / 65536 : Nat) : Int) by omega, show ((x : Int) % 65536) = ((x % 65536 : Nat) : Int) by omega, u64_xor_nat _ _ (by omega) (by omega), IntKind.wrap_u16]
  omega

set_option maxRecDepth 100000 in
set_option maxHeartbeats 400000 in
theorem rOld_any (s : ByteArray) (w : World) (hs : s.size ≤ maxLen) :
    Calls Tryd.prog 16 #[.string s] w fun e w' => e = .returned (.int .u16 (wk s.data.toList)) ∧ w' = w := by
  unfold maxLen at hs
  go_enter Tryd.func16, Tryd.ntmps16
  go_wp2
  go_loop [3, 4] (fun n i => ∃ (k : Nat), k ≤ s.size ∧ i = .int .i64 k ∧ n = .int .u64 (wk32 (s.data.toList.take k))) (fun _ i => s.size - (intOf i).toNat)
  case atStart => exact ⟨0, Nat.zero_le _, rfl, rfl⟩
  case round =>
    obtain ⟨k, hk, rfl, rfl⟩ := hrel
    have hx := wk32_lt (s.data.toList.take k)
    by_cases hlt : k < s.size
    · have HS : Hid (wk32 (s.data.toList.take (k + 1)) = wkStep (wk32 (s.data.toList.take k)) s[k]) := by rw [take_snoc s k hlt, wk32_snoc]; exact rfl
      go_wp2
      go_round
      case rel =>
        exact ⟨k + 1, by omega, by go_num, val_int (by rw [HS.out]; exact rOld_step _ _ hx)⟩
      case measure => simp [intOf]; omega
    · go_wp2
      go_ret
      exact ⟨ret_int (by rw [rOld_end _ hx, take_all s k hlt]; rfl), rfl⟩
end Go.Proofs.YtanfolfopalbeaaDoor
namespace Go.Proofs.YtanfolfopalbeaaDoor
open Go.RowKit

set_option maxRecDepth 100000 in
theorem len_same (x : Nat) (hx : x < 4294967296) : lenB (x % 18446744073709551616) 8 = lenR x 8 := by
  simp only [lenB, lenR, show List.range 8 = [0, 1, 2, 3, 4, 5, 6, 7] from rfl, List.map_cons, List.map_nil, bsh]
  have e : x % 18446744073709551616 = x := by omega
  rw [e]
  have h0 : x / 72057594037927936 = x / 2 ^ (8 * (7 - 0)) % 256 := by
    simp only [show 2 ^ (8 * (7 - 0)) = 72057594037927936 from rfl]; omega
  have h1 : x * 256 % 18446744073709551616 / 72057594037927936 = x / 2 ^ (8 * (7 - 1)) % 256 := by
    simp only [show 2 ^ (8 * (7 - 1)) = 281474976710656 from rfl]; omega
  have h2 : x * 256 % 18446744073709551616 * 256 % 18446744073709551616 / 72057594037927936 = x / 2 ^ (8 * (7 - 2)) % 256 := by
    simp only [show 2 ^ (8 * (7 - 2)) = 1099511627776 from rfl]; omega
  have h3 : x * 256 % 18446744073709551616 * 256 % 18446744073709551616 * 256 % 18446744073709551616 / 72057594037927936 = x / 2 ^ (8 * (7 - 3)) % 256 := by
    simp only [show 2 ^ (8 * (7 - 3)) = 4294967296 from rfl]; omega
  have b3 : x * 256 % 18446744073709551616 * 256 % 18446744073709551616 * 256 % 18446744073709551616 * 256 % 18446744073709551616 = x * 4294967296 := by omega
  have h4 : x * 4294967296 / 72057594037927936 = x / 2 ^ (8 * (7 - 4)) % 256 := by
    simp only [show 2 ^ (8 * (7 - 4)) = 16777216 from rfl]; omega
  have h5 : x * 4294967296 * 256 % 18446744073709551616 / 72057594037927936 = x / 2 ^ (8 * (7 - 5)) % 256 := by
    simp only [show 2 ^ (8 * (7 - 5)) = 65536 from rfl]; omega
  have h6 : x * 4294967296 * 256 % 18446744073709551616 * 256 % 18446744073709551616 / 72057594037927936 = x / 2 ^ (8 * (7 - 6)) % 256 := by
    simp only [show 2 ^ (8 * (7 - 6)) = 256 from rfl]; omega
  have h7 : x * 4294967296 * 256 % 18446744073709551616 * 256 % 18446744073709551616 * 256 % 18446744073709551616 / 72057594037927936 = x / 2 ^ (8 * (7 - 7)) % 256 := by
    simp only [show 2 ^ (8 * (7 - 7)) = 1 from rfl]; omega
  simp only [List.cons.injEq, and_true]
  exact ⟨congrArg _ h0, congrArg _ h1, congrArg _ h2, congrArg _ h3, congrArg _ (by rw [b3]; exact h4), congrArg _ (by rw [b3]; exact h5), congrArg _ (by rw [b3]; exact h6), congrArg _ (by rw [b3]; exact h7)⟩
theorem cmp_fuel : ∀ (f : Nat) (s : S8) (l : List UInt8) (g : Nat), l.length / 64 ≤ f → l.length / 64 ≤ g → cmp f s l = cmp g s l := by
  intro f
  induction f with
  | zero => intro s l g h1 _; rw [cmp_end _ _ _ (by omega), cmp_end _ _ _ (by omega)]
  | succ f ih =>
    intro s l g h1 h2
    by_cases h : l.length < 64
    · rw [cmp_end _ _ _ h, cmp_end _ _ _ h]
    · cases g with
      | zero => omega
      | succ g =>
        rw [cmp_step _ _ _ h, cmp_step _ _ _ h]
        exact ih _ _ _ (by rw [List.length_drop]; omega) (by rw [List.length_drop]; omega)
theorem cmp_append : ∀ (k : Nat) (s : S8) (a b : List UInt8) (f : Nat), a.length = 64 * k → cmp (f + k) s (a ++ b) = cmp f (cmp k s a) b := by
  intro k
  induction k with
  | zero =>
    intro s a b f h
    obtain rfl : a = [] := List.length_eq_zero_iff.1 (by omega)
    rfl
  | succ k ih =>
    intro s a b f h
    rw [← Nat.add_assoc, cmp_step _ _ _ (by rw [List.length_append]; omega), cmp_step _ _ a (by omega), List.take_append_of_le_length (by omega), List.drop_append_of_le_length (by omega)]
    exact ih _ _ _ _ (by rw [List.length_drop]; omega)
theorem sha_same (l : List UInt8) (h : l.length ≤ 1048576) : dig (cmp (padR l).length H0 (padR l)) = shaL l := by
  unfold shaL
  congr 1
  have hm : l.length - l.length % 64 = 64 * (l.length / 64) := by omega
  generalize hk : l.length / 64 = k at hm
  rw [hm]
  have hpad : padR l = l.take (64 * k) ++ padL (l.drop (64 * k)) l.length := by
    unfold padR padL
    rw [show l.length * 8 = 8 * l.length by omega, len_same _ (by omega), List.length_drop, show zs (l.length - 64 * k + 1) = zs (l.length + 1) by unfold zs; omega]
    simp only [← List.append_assoc]
    rw [List.take_append_drop]
  have ht : (l.take (64 * k)).length = 64 * k := by rw [List.length_take]; omega
  have hf := cmp_fuel (padR l).length H0 (padR l) ((padL (l.drop (64 * k)) l.length).length + k) (by omega) (by
    rw [hpad, List.length_append, ht]; omega)
  rw [hf, hpad, cmp_append k _ _ _ _ ht, cmp_fuel k H0 (l.take (64 * k)) (64 * k) (by rw [ht]; omega) (by rw [ht]; omega)]

set_option maxRecDepth 100000 in
set_option maxHeartbeats 1600000 in
theorem sums_any (x : ByteArray) (w : World) (hx : x.size ≤ 1048576) (hT : Tabs w) :
    Calls Tryd.prog 3 #[.string x] w fun e w' => e = .returned (.bool true) ∧ Below w.heap.size w w' := by
  have HT := hide hT
  clear hT
  have hzt := zero_tab
  have hzl := z72_length
  have hns := newsums_any
  have hrn := fun wq => rnew_any x wq hx
  have htl := tab_length
  have hdl : (shaL x.data.toList).length = 32 := dgk_length _ 8 (Nat.le_refl _)
  rw [sha_same x.data.toList hx] at hrn
  have hpn := fun wq h => NewSum_any x wq (by omega) h
  have hpo := fun wq => OldSum_any x wq (by unfold maxLen; omega)
  have hro := fun wq => rOld_any x wq (by unfold maxLen; omega)
  unfold tabV at hns hrn
  generalize z72 = z7 at hzt hzl
  generalize Hl ++ Kl = tb at hns hrn htl
  generalize shaL x.data.toList = d8 at hrn hpn hdl
  generalize wk x.data.toList = o at hpo hro
  have K1 := hide (show (Tryd.prog.info? 26).map (·.size) = some (ucells tb).toArray.size by rw [ucells_size, htl]; exact info_tab)
  have K2 := hide (show (ucells z7).toArray.size = (ucells tb).toArray.size by rw [ucells_size, ucells_size, htl, hzl])
  have K3 := hide (show (Tryd.prog.info? 31).map (·.size) = some (bcells d8).toArray.size by rw [bcells_size, hdl]; exact info_dg)
  have K4 := hide (show (bcells z32).toArray.size = (bcells d8).toArray.size by rw [bcells_size, bcells_size, hdl]; rfl)
  have hsame := fun wq => digest_same d8 hdl wq
  clear htl hzl hdl
  go_enter Tryd.func3, Tryd.ntmps3
  go_wp2_with (first | (go_at_call 13; (with_reducible refine (hns _).mono ?_); rintro e w1 ⟨rfl, hb1⟩) | ((with_reducible refine at_store ?_); refine wpList_store_row rfl 26 _ _ rfl w1.heap.size (ucells tb).toArray rfl rfl 26 _ (heap_alloc_new w1 _) (unhide K1) (unhide K2) (ucells_one tb) ?_) | (go_at_call 14; (with_reducible refine (hpo _).mono ?_); rintro e w2 ⟨rfl, he⟩; cases he))
  have hbA : Below w.heap.size w ((w1.alloc (.cells (ucells z7).toArray 26)).setRow w1.heap.size (ucells tb).toArray) := below_row (hb1.alloc hb1.size _) hb1.size _
  have gA : URow ((w1.alloc (.cells (ucells z7).toArray 26)).setRow w1.heap.size (ucells tb).toArray) w1.heap.size 26 tb := heap_put_new _ _ _ _
  have hGA := hb1.size
  generalize ((w1.alloc (.cells (ucells z7).toArray 26)).setRow w1.heap.size (ucells tb).toArray) = WA at hbA gA ⊢
  generalize w1.heap.size = GA at *
  clear hb1 hns hzt K2
  refine (hpn _ ((unhide HT).below hbA (Nat.le_refl _))).mono ?_
  rintro e w2 ⟨rfl, hb2⟩
  have gB := gA.below hb2 (Nat.le_refl _)
  have hbB := hbA.trans (hb2.mono hbA.size)
  clear gA hbA hb2 HT hpn hpo
  have hlB := gB.lt
  have GB := hide gB
  clear gB
  go_wp2_with (first | ((with_reducible refine at_store ?_); refine wpList_store_row rfl 31 _ _ rfl w2.heap.size (bcells d8).toArray rfl rfl 31 _ (heap_alloc_new w2 _) (unhide K3) (unhide K4) (bcells_one d8) ?_) | (go_at_call 16; (with_reducible refine (hro _).mono ?_); rintro e w3 ⟨rfl, he⟩; cases he) | ((with_reducible refine at_load ?_); refine wpList_load_row rfl 26 _ rfl GA rfl 26 (ucells tb).toArray (0, 0) _ ((heap_put_old w2 _ _ _ _ hlB).trans (unhide GB)) Tryd.underlying26 rfl (unhide K1) ?_))
  rw [← z32_cells]
  have hbC : Below w.heap.size w ((w2.alloc (.cells (bcells z32).toArray 31)).setRow w2.heap.size (bcells d8).toArray) := below_row (hbB.alloc hbB.size _) hbB.size _
  have gC : BRow ((w2.alloc (.cells (bcells z32).toArray 31)).setRow w2.heap.size (bcells d8).toArray) w2.heap.size 31 d8 := heap_put_new _ _ _ _
  have hGC := hbB.size
  generalize ((w2.alloc (.cells (bcells z32).toArray 31)).setRow w2.heap.size (bcells d8).toArray) = WC at hbC gC ⊢
  generalize w2.heap.size = GC at *
  clear hbB GB
  refine (hrn _).mono ?_
  rintro e w4 ⟨rfl, hb4⟩
  have gD : BRow w4 GC 31 d8 := by unfold BRow; rw [hb4.block _ (lt_of_block gC)]; exact gC
  have hbD := hbC.trans (hb4.mono hbC.size)
  have hlD := lt_of_block gD
  clear gC hbC hb4 hrn hro
  have GD := hide gD
  clear gD
  go_wp2_with (first | ((with_reducible refine at_store ?_); refine wpList_store_row rfl 31 _ _ rfl w4.heap.size (bcells d8).toArray rfl rfl 31 _ (heap_alloc_new w4 _) (unhide K3) (unhide K4) (bcells_one d8) ?_) | ((with_reducible refine at_load2 ?_); first | refine wpList_load_row_w (by rfl) 31 _ rfl GC (by rfl) 31 (bcells d8).toArray (0, 0) _ ((heap_put_old w4 _ _ _ _ hlD).trans (unhide GD)) Tryd.underlying31 rfl (unhide K3) ?_ | refine wpList_load_row_w (by rfl) 31 _ rfl w4.heap.size (by rfl) 31 (bcells d8).toArray (0, 0) _ (heap_put_new w4 _ _ _) Tryd.underlying31 rfl (unhide K3) ?_))
  go_ret
  exact ⟨rfl, below_row (hbD.alloc hbD.size _) hbD.size _⟩
end Go.Proofs.YtanfolfopalbeaaDoor
namespace Go.Proofs.YtanfolfopalbeaaDoor
open Go.RowKit

set_option maxHeartbeats 400000 in
theorem rhalf_any (n : Nat) (w : World) (hn : n ≤ 1099511627776) :
    Calls Tryd.prog 64 #[.int .i64 n] w fun e w' => e = .returned (.int .i64 (half n)) ∧ w' = w := by
  go_enter Tryd.func64, Tryd.ntmps64
  go_wp2
  go_loop [3] (fun v => ∃ m : Nat, (∃ j, m = 2 ^ j) ∧ (m < n ∨ m = 1) ∧ 0 < m ∧ v = .int .i64 m) (fun v => n - (intOf v).toNat)
  case atStart => exact ⟨1, ⟨0, rfl⟩, .inr rfl, by omega, rfl⟩
  case round =>
    obtain ⟨m, hj, hm, hm0, rfl⟩ := hrel
    have HJ := hide hj
    clear hj
    have hm1 : (m : Int) ≤ 1099511627776 := by omega
    by_cases hlt : m + m < n
    · have hd : decide ((m : Int) + (m : Int) < (n : Int)) = true := by simp; omega
      go_wp2
      go_round
      case rel =>
        obtain ⟨j, hj⟩ := unhide HJ
        exact ⟨m + m, ⟨j + 1, by rw [Nat.pow_succ, hj]; omega⟩, .inl hlt, by omega, val_int (by omega)⟩
      case measure => simp [intOf]; omega
    · have hd : decide ((m : Int) + (m : Int) < (n : Int)) = false := by simp; omega
      go_wp2
      go_ret
      obtain ⟨j, hj⟩ := unhide HJ
      refine ⟨ret_int ?_, rfl⟩
      by_cases h2 : m < n
      · rw [half_of n j (by omega) (by omega), hj]
      · rw [half_small n (by omega)]; omega

/-- A table by which the reference's New is the strong sum. -/
def TabOk (tb : List Nat) : Prop := tb.length = 72 ∧ ∀ (s : ByteArray) (w : World), s.size ≤ 1048576 →
  Calls Tryd.prog 17 #[.agg (ucells tb).toArray, .string s] w fun e w' => e = .returned (.agg (bcells (shaL s.data.toList)).toArray) ∧ Below w.heap.size w w'
theorem tabOk : TabOk (Hl ++ Kl) := ⟨tab_length, fun s w hs => by
  have := rnew_any s w hs
  rw [sha_same s.data.toList hs] at this
  exact this⟩
theorem v_tab (tb : List Nat) (h : tb.length = 72) : (Tryd.prog.info? 26).map (·.size) = some (ucells tb).toArray.size := by rw [ucells_size, h]; exact info_tab
theorem v_tabm (tb : List Nat) (h : tb.length = 72) : (Tryd.prog.info? 26).map (·.size) = some (ucells tb).length := by rw [ucells_length, h]; exact info_tab

set_option maxRecDepth 100000 in
set_option maxHeartbeats 400000 in
theorem rleaf_any (tb : List Nat) (ht : TabOk tb) (x : ByteArray) (w : World) (hx : x.size ≤ 1048575) :
    Calls Tryd.prog 63 #[.agg (ucells tb).toArray, .string x] w fun e w' => e = .returned (.agg (bcells (lf x)).toArray) ∧ Below w.heap.size w w' := by
  have VT := hide (v_tab tb ht.1)
  have hN := fun wq => ht.2 (ByteArray.mk #[0] ++ x) wq (by rw [cons_size]; omega)
  rw [cons_data] at hN
  have hdl : (lf x).length = 32 := sha_length _
  rw [show shaL (0 :: x.data.toList) = lf x from rfl] at hN
  generalize lf x = d8 at hN hdl ⊢
  have V2 := hide (v_dg d8 hdl)
  have V3 := hide (v_z32 d8 hdl)
  obtain ⟨hbel0, g0, g1⟩ := two_new w (.cells (ucells tb).toArray 26) (.cells (bcells z32).toArray 31)
  have K0 := hide hbel0
  have G0 := hide g0
  have G1 := hide g1
  clear hbel0 g0 g1
  go_enter Tryd.func63, Tryd.ntmps63
  go_upto_region 1 with fail
  rw [← z32_cells]
  generalize ((w.alloc (.cells (ucells tb).toArray 26)).alloc (.cells (bcells z32).toArray 31)) = W0 at K0 G0 G1 ⊢
  go_wp2_with ((with_reducible refine at_load ?_); refine wpList_load_row rfl 26 _ rfl w.heap.size (by rfl) 26 (ucells tb).toArray (0, 0) _ (unhide G0) Tryd.underlying26 rfl (unhide VT) ?_)
  refine (hN _).mono ?_
  rintro e w1 ⟨rfl, hb1⟩
  have hbel1 := (unhide K0).trans (hb1.mono (unhide K0).size)
  have V1 := hide (show BRow w1 (w.heap.size + 1) 31 z32 from (hb1.block _ (lt_of_block (unhide G1))).trans (unhide G1))
  clear hb1 hN K0 G0 G1
  go_wp2_with ((with_reducible refine at_store ?_); refine wpList_store_row rfl 31 _ _ rfl (w.heap.size + 1) (bcells d8).toArray rfl rfl 31 _ (unhide V1) (unhide V2) (unhide V3) (bcells_one d8) ?_)
  refine bodyPost_ret (v := .agg (bcells d8).toArray) ?_ rfl ⟨rfl, below_row hbel1 (by omega) _⟩
  exact results_cell_row Tryd.results63 _ _ (w.heap.size + 1) 31 _ (0, 0) _ rfl (setRow_heap _ _ _ _ _ _ (unhide V1)) Tryd.underlying31 rfl (unhide V2)

theorem there_of_brow {w : World} {g : Nat} {t : TypeId} {d : List UInt8} (h : BRow w g t d) (hd : d.length = 32) : w.there g 0 32 := fun j hj => by
  rw [Nat.zero_add]
  exact ⟨by rw [h.cell j (by omega)]; rfl, h.free j⟩
/-- What the node's region reads. -/
theorem node_S {g : Nat} {tb : List Nat} {a b c : List UInt8} {w' : World} (ha : a.length = 32) (hb : b.length = 32) (hc : c.length = 32) (htl : tb.length = 72) (h0 : URow w' g 26 tb) (h1 : BRow w' (g + 1) 31 a) (h2 : BRow w' (g + 1 + 1) 31 b) (h3 : BRow w' (g + 1 + 1 + 1) 31 c) :
    w'.rangeAt g 0 (ucells tb) ∧ w'.there (g + 1 + 1 + 1) 0 32 ∧ Sem.run Tryd.prog (convert 45 9 (.slice (some ⟨g + 1, 0, none⟩) 32 32)) w' = .ok (.string (mk a)) w' ∧ Sem.run Tryd.prog (convert 45 9 (.slice (some ⟨g + 1 + 1, 0, none⟩) 32 32)) w' = .ok (.string (mk b)) w' := by
  refine ⟨?_, there_of_brow h3 hc, conv_row _ a w' ha h1, conv_row _ b w' hb h2⟩
  have := range_of_urow h0 72
  rwa [List.take_of_length_le (by omega)] at this
theorem brow_setCells {w : World} {g : Nat} {ty : TypeId} {l l2 : List UInt8} (h : BRow w g ty l) (hl : l.length = l2.length) : BRow (w.setCells g 0 (bcells l2)) g ty l2 := by
  unfold BRow
  rw [setCells_row g ty (bcells l2) 0 w _ h (by rw [bcells_size]; simp [bcells]; omega)]
  congr 3
  rw [List.take_zero, List.nil_append, List.drop_eq_nil_of_le (by simp [bcells]; omega), List.append_nil]
theorem four_new (w : World) (A B C E : Obj) : Below w.heap.size w ((((w.alloc A).alloc B).alloc C).alloc E) ∧ ((((w.alloc A).alloc B).alloc C).alloc E).heap[w.heap.size]? = some A ∧ ((((w.alloc A).alloc B).alloc C).alloc E).heap[w.heap.size + 1]? = some B ∧ ((((w.alloc A).alloc B).alloc C).alloc E).heap[w.heap.size + 1 + 1]? = some C ∧ ((((w.alloc A).alloc B).alloc C).alloc E).heap[w.heap.size + 1 + 1 + 1]? = some E := by
  obtain ⟨g0, g1, g2⟩ := heap3 w A B C
  have hb3 : Below w.heap.size w (((w.alloc A).alloc B).alloc C) := (((Below.refl _ _).alloc (Nat.le_refl _) _).alloc (by simp) _).alloc (by simp; omega) _
  have hs : (((w.alloc A).alloc B).alloc C).heap.size = w.heap.size + 1 + 1 + 1 := by simp
  have hbE := (Below.refl (((w.alloc A).alloc B).alloc C).heap.size (((w.alloc A).alloc B).alloc C)).alloc (Nat.le_refl _) E
  refine ⟨hb3.alloc (by omega) _, (hbE.block _ (by omega)).trans g0, (hbE.block _ (by omega)).trans g1, (hbE.block _ (by omega)).trans g2, ?_⟩
  have := heap_alloc_new (((w.alloc A).alloc B).alloc C) E
  rwa [hs] at this

set_option maxRecDepth 100000 in
set_option maxHeartbeats 1600000 in
theorem rnode_any (tb : List Nat) (ht : TabOk tb) (a b : List UInt8) (w : World) (ha : a.length = 32) (hb : b.length = 32) :
    Calls Tryd.prog 65 #[.agg (ucells tb).toArray, .agg (bcells a).toArray, .agg (bcells b).toArray] w fun e w' => e = .returned (.agg (bcells (nd a b)).toArray) ∧ Below w.heap.size w w' := by
  have htl := ht.1
  have VT := v_tabm tb htl
  have hnd : nd a b = shaL ((ByteArray.mk #[1] ++ mk a ++ mk b).data.toList) := by
    unfold nd
    rw [ByteArray.data_append, Array.toList_append, cons_data, mk_data, mk_data]
    rfl
  have hN := fun wq => ht.2 (ByteArray.mk #[1] ++ mk a ++ mk b) wq (by rw [ByteArray.size_append, cons_size, mk_size, mk_size]; omega)
  rw [← hnd] at hN
  have hdl : (nd a b).length = 32 := sha_length _
  generalize nd a b = d8 at hN hdl ⊢
  have V2 := hide (v_dg d8 hdl)
  have V4 := v_mid d8 hdl
  have hcl : (bcells d8).length = 32 := by simp [bcells, hdl]
  have hone := bcells_one' d8
  have hsA : (mk a).size = 32 := by rw [mk_size, ha]
  have hsB : (mk b).size = 32 := by rw [mk_size, hb]
  have hu26 := Tryd.underlying26
  have hu31 := Tryd.underlying31
  obtain ⟨hbel0, g0, g1, g2, g3⟩ := four_new w (.cells (ucells tb).toArray 26) (.cells (bcells a).toArray 31) (.cells (bcells b).toArray 31) (.cells (bcells z32).toArray 31)
  have K0 := hide hbel0
  have G0 := hide g0
  have G1 := hide g1
  have G2 := hide g2
  have G3 := hide g3
  clear hbel0 g0 g1 g2 g3 hnd
  go_enter Tryd.func65, Tryd.ntmps65
  go_upto_region 1 with fail
  rw [← z32_cells]
  generalize ((((w.alloc (.cells (ucells tb).toArray 26)).alloc (.cells (bcells a).toArray 31)).alloc (.cells (bcells b).toArray 31)).alloc (.cells (bcells z32).toArray 31)) = W0 at K0 G0 G1 G2 G3 ⊢
  have hr8 := node_S (w' := W0.drew) ha hb (show z32.length = 32 from rfl) htl (unhide G0) (unhide G1) (unhide G2) (unhide G3)
  have hu26 := Tryd.underlying26
  refine wp_region_held_drew (S := fun w' => w'.rangeAt w.heap.size 0 (ucells tb) ∧ w'.there (w.heap.size + 1 + 1 + 1) 0 32 ∧ Sem.run Tryd.prog (convert 45 9 (.slice (some ⟨w.heap.size + 1, 0, none⟩) 32 32)) w' = .ok (.string (mk a)) w' ∧ Sem.run Tryd.prog (convert 45 9 (.slice (some ⟨w.heap.size + 1 + 1, 0, none⟩) 32 32)) w' = .ok (.string (mk b)) w') (by kernel_rfl) hr8 (fun hHeld => ?_)
  refine wpAnyH_take (i := 0) rfl (by kernel_rfl) (by kernel_rfl) (by kernel_rfl) (fun _ _ _ h => h)
      (yieldsIf_load_mid (by rfl) 26 _ rfl w.heap.size 0 rfl (ucells tb) _ (fun _ h => h.1) Tryd.underlying26 rfl VT) hHeld ?_
  refine wpAnyH_take (i := 1) (v := .slice (some ⟨w.heap.size + 1, 0, none⟩) 32 32) rfl (by kernel_rfl) (by kernel_rfl) (by kernel_rfl) (fun _ _ _ h => h) (Or.inl ⟨by rfl, fun _ _ => by go_simp⟩) hHeld ?_
  refine wpAnyH_take (i := 2) (v := .string (mk a)) rfl (by kernel_rfl) (by kernel_rfl) (by kernel_rfl) (fun _ _ _ h => h) (Or.inl ⟨by rfl, fun _ hq => by have hq2 := hq.2.2.1; clear hq; go_simp⟩) hHeld ?_
  refine wpAnyH_take (i := 3) (v := .string (ByteArray.mk #[1] ++ mk a)) rfl (by kernel_rfl) (by kernel_rfl) (by kernel_rfl) (fun _ _ _ h => h) (Or.inl ⟨by rfl, fun _ _ => by go_simp⟩) hHeld ?_
  refine wpAnyH_take (i := 4) (v := .slice (some ⟨w.heap.size + 1 + 1, 0, none⟩) 32 32) rfl (by kernel_rfl) (by kernel_rfl) (by kernel_rfl) (fun _ _ _ h => h) (Or.inl ⟨by rfl, fun _ _ => by go_simp⟩) hHeld ?_
  refine wpAnyH_take (i := 5) (v := .string (mk b)) rfl (by kernel_rfl) (by kernel_rfl) (by kernel_rfl) (fun _ _ _ h => h) (Or.inl ⟨by rfl, fun _ hq => by have hq2 := hq.2.2.2; clear hq; go_simp⟩) hHeld ?_
  refine wpAnyH_take (i := 6) (v := .string (ByteArray.mk #[1] ++ mk a ++ mk b)) rfl (by kernel_rfl) (by kernel_rfl) (by kernel_rfl) (fun _ _ _ h => h) (Or.inl ⟨by rfl, fun _ _ => by go_simp⟩) hHeld ?_
  refine wpAnyH_ready (rs := [7]) (by kernel_rfl) (by simp) ?_
  refine AllReadyH.cons rfl (fun K hK => ?_) AllReadyH.nil
  go_simp
  go_at_call 17
  refine (hN _).mono ?_
  rintro e w1 ⟨rfl, hb1⟩
  have hbw1 : Below W0.heap.size W0 w1 := ⟨hb1.os, hb1.tape, hb1.output, hb1.size, hb1.block⟩
  have g0 : URow w1 w.heap.size 26 tb := (hbw1.block _ (lt_of_block (unhide G0))).trans (unhide G0)
  have g1 : BRow w1 (w.heap.size + 1) 31 a := (hbw1.block _ (lt_of_block (unhide G1))).trans (unhide G1)
  have g2 : BRow w1 (w.heap.size + 1 + 1) 31 b := (hbw1.block _ (lt_of_block (unhide G2))).trans (unhide G2)
  have g3 : BRow w1 (w.heap.size + 1 + 1 + 1) 31 z32 := (hbw1.block _ (lt_of_block (unhide G3))).trans (unhide G3)
  have hbel1 := (unhide K0).trans (hbw1.mono (unhide K0).size)
  dsimp only
  refine hK.out _ _ (node_S ha hb (show z32.length = 32 from rfl) htl g0 g1 g2 g3) (fun _ => ?_)
  clear hK K
  refine wpAnyH_ready (rs := [8]) (by kernel_rfl) (by simp) ?_
  refine AllReadyH.cons rfl (fun K hK => ?_) AllReadyH.nil
  rw [if_pos (by rfl)]
  refine wp_store_mid 31 _ _ rfl (w.heap.size + 1 + 1 + 1) 0 (bcells d8).toArray rfl rfl (by rw [bcells_size, hdl]; exact there_of_brow g3 rfl) (unhide V2) (bcells_one d8) ?_
  rw [show (bcells d8).toArray.toList = bcells d8 from rfl]
  have g4 : BRow (w1.setCells (w.heap.size + 1 + 1 + 1) 0 (bcells d8)) (w.heap.size + 1 + 1 + 1) 31 d8 := brow_setCells g3 (by rw [hdl]; rfl)
  have hbel2 : Below w.heap.size w (w1.setCells (w.heap.size + 1 + 1 + 1) 0 (bcells d8)) := below_setCells (by omega) _ _ hbel1
  have hS2 := node_S ha hb hdl htl (show URow (w1.setCells (w.heap.size + 1 + 1 + 1) 0 (bcells d8)) w.heap.size 26 tb from (setCells_other _ _ (by omega) _ _ _).trans g0) (show BRow (w1.setCells (w.heap.size + 1 + 1 + 1) 0 (bcells d8)) (w.heap.size + 1) 31 a from (setCells_other _ _ (by omega) _ _ _).trans g1) (show BRow (w1.setCells (w.heap.size + 1 + 1 + 1) 0 (bcells d8)) (w.heap.size + 1 + 1) 31 b from (setCells_other _ _ (by omega) _ _ _).trans g2) g4
  generalize w1.setCells (w.heap.size + 1 + 1 + 1) 0 (bcells d8) = w2 at g4 hbel2 hS2 ⊢
  refine hK.out _ _ hS2 (fun _ => ?_)
  clear hK K
  refine wpAnyH_done (by kernel_rfl) ?_ _
  go_wp2_with fail
  refine bodyPost_ret (v := .agg (bcells d8).toArray) ?_ rfl ⟨rfl, hbel2⟩
  exact results_cell_row Tryd.results65 _ _ (w.heap.size + 1 + 1 + 1) 31 _ (0, 0) _ rfl g4 Tryd.underlying31 rfl (unhide V2)
end Go.Proofs.YtanfolfopalbeaaDoor
namespace Go.Proofs.YtanfolfopalbeaaDoor
open Go.RowKit

/-- What lendDigests lays behind a list. -/
def d7 : List UInt8 := [7, 7, 7] ++ List.replicate 29 0
theorem d7_length : d7.length = 32 := rfl
theorem d7_cells : (bcells d7).toArray = #[.int .u8 7, .int .u8 7, .int .u8 7, .int .u8 0, .int .u8 0, .int .u8 0, .int .u8 0, .int .u8 0, .int .u8 0, .int .u8 0, .int .u8 0, .int .u8 0, .int .u8 0, .int .u8 0, .int .u8 0, .int .u8 0, .int .u8 0, .int .u8 0, .int .u8 0, .int .u8 0, .int .u8 0, .int .u8 0, .int .u8 0, .int .u8 0, .int .u8 0, .int .u8 0, .int .u8 0, .int .u8 0, .int .u8 0, .int .u8 0, .int .u8 0, .int .u8 0] := rfl
def lentD (ps : List (List UInt8)) : List (List UInt8) := ps ++ [d7, d7]
theorem lentD_length (ps : List (List UInt8)) : (lentD ps).length = ps.length + 2 := by simp [lentD]
theorem lentD_elem (ps : List (List UInt8)) (h : ∀ d ∈ ps, d.length = 32) : ∀ d ∈ lentD ps, d.length = 32 := by
  intro d hd
  simp only [lentD, List.mem_append, List.mem_cons, List.not_mem_nil, or_false, or_self] at hd
  rcases hd with hd | rfl
  · exact h d hd
  · rfl
theorem lentD_at (ps : List (List UInt8)) (k : Nat) (h0 : ps.length ≤ k) (h1 : k < ps.length + 2) : (lentD ps).getD k [] = d7 := by
  unfold lentD
  rw [List.getD, List.getElem?_append_right h0]
  have : k - ps.length = 0 ∨ k - ps.length = 1 := by omega
  rcases this with h | h <;> simp [h]

set_option maxRecDepth 100000 in
set_option maxHeartbeats 1600000 in
theorem lendD_any (v : Value) (ps : List (List UInt8)) (w : World) (h : Digs w v ps) (hm : ps.length ≤ 1048576) :
    Calls Tryd.prog 28 #[v] w fun e w' => e = .returned (.slice (some ⟨w.heap.size, 0, none⟩) (ps.length + 2) (ps.length + 2)) ∧
      w'.ownsRow w.heap.size 31 32 (.slice (some ⟨w.heap.size, 0, none⟩) (ps.length + 2) (ps.length + 2)) (ps.length + 2) (dcells (lentD ps)) ∧ Below w.heap.size w w' := by
  obtain ⟨i0, hi, hz0, hz1, hz2⟩ := info_parts info_dig
  obtain ⟨h0, ao, cap, rfl, hc1, hc2, hc⟩ := h
  have HC := hide hc
  have H0 := hide h0
  have HDL := hide (dcells_length ps h0)
  clear hc h0
  go_enter Tryd.func28, Tryd.ntmps28
  go_wp2_with (at_make; go_must (refine wpList_make_full _ rfl _ _ 50 rfl w.heap.size 31 i0 (.agg (bcells z32).toArray) 32 Tryd.underlying50 hi hz0 hz1 _ _ _ _ (ps.length + 2) rfl rfl (by omega) (by omega) (by rw [hz2]; omega) (by unfold maxLen; omega) (Nat.le_refl _) ?_))
  intro w1 hown1 hgrow1
  have hbel1 : Below w.heap.size w w1 := (Below.refl _ _).grown hgrow1 (Nat.le_refl _) (fun k h => by cases h)
  obtain ⟨hl1, h1⟩ := hown1
  rcases h1 with ⟨h1, _⟩ | ⟨g, cap1, cur, hv, hg1, hg2, hg3, hg4, hg5, hg6⟩
  · simp at h1
  simp only [Value.slice.injEq, Option.some.injEq, Addr.mk.injEq, and_true, true_and] at hv
  obtain ⟨hgB, hcap1⟩ := hv
  rw [← hcap1] at hg5
  rw [← hgB] at hg2
  have hcl : cur.toList.length = (ps.length + 2) * 32 := by rw [Array.length_toList]; exact hg5
  have hsrc : 0 < ps.length → ∃ ad, ao = some ad ∧ ∀ j v, (dcells ps)[j]? = some v → w1.cell? (ad.add j) = some v := by
    intro hp
    rcases unhide HC with rfl | ⟨b, off, rfl, hcc⟩
    · cases hp
    · refine ⟨_, rfl, fun j v hj => ?_⟩
      rw [add_none, hbel1.cell (p := ⟨b, off + j, none⟩) (cell_lt (hcc j v hj))]
      exact hcc j v hj
  have HG : Hid (w1.heap[w.heap.size]? = some (.cells cur.toList.toArray 31 (0, 0))) := hide (by rw [Array.toArray_toList]; exact hg2)
  have HSRC := hide hsrc
  have HCL := hide hcl
  have HINF := hide (show (Tryd.prog.info? 31).map (·.size) = some 32 from info_dg)
  clear hsrc hcl hg1 hg2 hg3 hg4 hg5 hg6 hl1 hgB hcap1 hgrow1
  go_wp2_with ((with_reducible refine at_copyD ?_); go_must (refine wpList_copy_big rfl (.tmp 9) (.tmp 10) 50 50 rfl 31 Tryd.underlying50 32 (unhide HINF) _ _ _ _ _ w.heap.size rfl rfl cur.toList 31 (unhide HG) (dcells ps) (by omega) ?c1 (unhide HSRC) ?c2 (dcells_one2 ps) w.heap.size w hbel1 (Nat.le_refl _) ?_))
  case c1 => have := unhide HDL; omega
  case c2 => have h5 := unhide HCL; have h6 := unhide HDL; omega
  intro w2 HG2 hbel2
  have hl0 : (dcells ps ++ cur.toList.drop (dcells ps).length).length = (ps.length + 2) * 32 := by
    rw [List.length_append, List.length_drop]
    have h5 := unhide HCL
    have h6 := unhide HDL
    omega
  have ht0 : (dcells ps ++ cur.toList.drop (dcells ps).length).take (ps.length * 32) = (dcells (lentD ps)).take (ps.length * 32) := by
    have h6 := unhide HDL
    have e : dcells (lentD ps) = dcells ps ++ dcells [d7, d7] := by simp [dcells, lentD]
    rw [e, List.take_left' (by omega), List.take_left' (by omega)]
  have hLe := lentD_elem ps (unhide H0)
  have hLl := lentD_length ps
  have hLa := lentD_at ps
  have hdL := dcells_length (lentD ps) hLe
  generalize dcells ps ++ cur.toList.drop (dcells ps).length = l0 at hl0 ht0 HG2
  generalize hLE : lentD ps = L at hLe hLl hLa hdL ht0
  have HLE := hide hLE
  clear hLE
  rw [hLl] at hdL
  have HDAT := hide (fun k hk => dcells_at L k hk)
  have HDTK := hide (fun k => dcells_length (L.take k) (fun d hd => hLe d (List.mem_of_mem_take hd)))
  have H7 := hide (v_dg d7 rfl)
  have HLA := hide hLa
  have HDL2 := hide hdL
  clear HC HSRC HG HCL hLe hLa hdL hbel1 HDL
  go_wp2_with fail
  go_loopw [4] (fun i wr => ∃ (k : Nat) (l2 : List Value), ps.length ≤ k ∧ k ≤ ps.length + 2 ∧ i = .int .i64 k ∧ l2.length = (ps.length + 2) * 32 ∧ l2.take (k * 32) = (dcells L).take (k * 32) ∧ wr.heap[w.heap.size]? = some (.cells l2.toArray 31 (0, 0)) ∧ Below w.heap.size w wr) (fun i _ => ps.length + 2 - (intOf i).toNat)
  case atStart => exact ⟨ps.length, l0, Nat.le_refl _, by omega, rfl, hl0, ht0, unhide HG2, hbel2⟩
  case round =>
    obtain ⟨k, l2, hk0, hk2, rfl, hl2, htk, hg, hbel⟩ := hrel
    have HGK := hide hg
    have HTK := hide htk
    clear hg htk
    by_cases hlt : k < ps.length + 2
    · have hthere : wr.there w.heap.size (k * 32) (bcells d7).toArray.size := fun j hj => by
        rw [bcells_size, d7_length] at hj
        refine ⟨?_, frozen_of_row wr w.heap.size _ _ _ (unhide HGK)⟩
        rw [cell_of_row wr w.heap.size _ _ _ _ (unhide HGK), List.getElem?_toArray, List.getElem?_eq_getElem (by omega)]
        rfl
      have HTH := hide hthere
      clear hthere
      have hd1 : decide ((k : Int) < (ps.length : Int) + 2) = true := by simp; omega
      have hka : (0 : Int) ≤ (k : Int) := by omega
      have hkb : (k : Int) < (ps.length : Int) + 2 := by omega
      go_wp2_with ((with_reducible refine at_store ?_); rw [← d7_cells]; refine wpList_store_mid rfl 31 _ _ rfl w.heap.size (k * 32) (bcells d7).toArray (by rfl) (by rfl) (unhide HTH) (unhide H7) (bcells_one d7) ?_)
      refine ⟨⟨k + 1, l2.take (k * 32) ++ bcells d7 ++ l2.drop (k * 32 + 32), by omega, by omega, by go_num, ?_, ?_, ?_, below_setCells (Nat.le_refl _) _ _ hbel⟩, by simp [intOf]; omega⟩
      · simp [bcells, d7_length]
        omega
      · have h6 := unhide HDTK k
        rw [List.length_take] at h6
        have e1 := unhide HDAT k (by omega)
        rw [unhide HLA k hk0 hlt] at e1
        have e2 : (dcells L).take (k * 32) = dcells (L.take k) := by
          rw [e1, List.append_assoc, List.take_left' (by omega)]
        rw [unhide HTK, e2]
        have hb7 : (bcells d7).length = 32 := rfl
        rw [List.take_left' (by rw [List.length_append]; omega)]
        rw [e1, List.take_left' (by rw [List.length_append]; omega)]
      · rw [setCells_row w.heap.size 31 (bcells d7) (k * 32) wr _ (unhide HGK) (by simp [bcells, d7_length]; omega)]
        rfl
    · have hd1 : decide ((k : Int) < (ps.length : Int) + 2) = false := by simp; omega
      have hle : l2 = dcells L := by
        have h5 := unhide HTK
        have h6 := unhide HDL2
        rw [List.take_of_length_le (by omega), List.take_of_length_le (by omega)] at h5
        exact h5
      have HO := hide (show wr.ownsRow w.heap.size 31 32 (.slice (some ⟨w.heap.size, 0, none⟩) (ps.length + 2) (ps.length + 2)) (ps.length + 2) (dcells (lentD ps)) from
        ⟨by rw [unhide HLE, unhide HDL2]; omega, .inr ⟨w.heap.size, ps.length + 2, _, rfl, Nat.le_refl _, unhide HGK, Nat.le_refl _, by unfold maxLen; omega, by simp [hl2], by rw [unhide HLE, ← hle, List.take_of_length_le (by simp [hl2])]⟩⟩)
      clear hle
      go_wp2
      go_ret
      exact ⟨rfl, unhide HO, hbel⟩

set_option maxRecDepth 100000 in
set_option maxHeartbeats 400000 in
theorem sameD_empty (ao ao' : Option Addr) (cap cap' : Nat) (w : World) :
    Calls Tryd.prog 31 #[.slice ao 0 cap, .slice ao' 0 cap'] w fun e w' => e = .returned (.bool true) ∧ Below w.heap.size w w' := by
  go_enter Tryd.func31, Tryd.ntmps31
  go_wp2
  refine wp_loop_rounds 1 ?_
  rw [rounds_succ]
  go_wp2
  go_ret
  exact ⟨rfl, Below.refl _ _⟩

set_option maxRecDepth 100000 in
set_option maxHeartbeats 1600000 in
theorem sameD_some (b off cap b' off' cap' : Nat) (ps : List (List UInt8)) (w : World) (hm : ps.length ≤ 2097152) (hD : Digs w (.slice (some ⟨b, off, none⟩) ps.length cap) ps) (hD' : Digs w (.slice (some ⟨b', off', none⟩) ps.length cap') ps) :
    Calls Tryd.prog 31 #[.slice (some ⟨b, off, none⟩) ps.length cap, .slice (some ⟨b', off', none⟩) ps.length cap'] w fun e w' => e = .returned (.bool true) ∧ Below w.heap.size w w' := by
  have HD := hide hD
  have HD' := hide hD'
  clear hD hD'
  have hne : ((ps.length : Int) != (ps.length : Int)) = false := by simp
  have hu31 := Tryd.underlying31
  go_enter Tryd.func31, Tryd.ntmps31
  go_wp2
  go_loopw [5] (fun i wr => ∃ k : Nat, k ≤ ps.length ∧ i = .int .i64 k ∧ Below w.heap.size w wr) (fun i _ => ps.length - (intOf i).toNat)
  case atStart => exact ⟨0, Nat.zero_le _, rfl, Below.refl _ _⟩
  case round =>
    obtain ⟨k, hk, rfl, hbel⟩ := hrel
    by_cases hlt : k < ps.length
    · have hr1 := rangeAt_below (digs_at (unhide HD) k hlt) hbel (Nat.le_refl _)
      have hr2 := rangeAt_below (digs_at (unhide HD') k hlt) hbel (Nat.le_refl _)
      have hdl := digs_len (unhide HD) k hlt
      generalize ps.getD k [] = d at hr1 hr2 hdl
      have hmi := v_mid d hdl
      have hsame := fun wq => digest_same d hdl wq
      have hlti : (k : Int) < (ps.length : Int) := by omega
      have hk0 : (0 : Int) ≤ (k : Int) := by omega
      have hr8 : wr.drew.rangeAt b (off + k * 32) (bcells d) ∧ wr.drew.rangeAt b' (off' + k * 32) (bcells d) := ⟨hr1, hr2⟩
      clear hr1 hr2
      go_wp2_with fail
      refine wp_region_held_drew (S := fun w' => w'.rangeAt b (off + k * 32) (bcells d) ∧ w'.rangeAt b' (off' + k * 32) (bcells d)) (by kernel_rfl) hr8 (fun hHeld => ?_)
      refine wpAnyH_take (i := 0) (v := .slice (some ⟨b, off, none⟩) ps.length cap) rfl (by kernel_rfl) (by kernel_rfl) (by kernel_rfl) (fun _ _ _ h => h) (Or.inl ⟨by rfl, fun _ _ => by go_simp⟩) hHeld ?_
      simp only [List.getElem_toArray, List.getElem_cons_zero, Act.put, List.setIfInBounds_toArray, List.set_cons_zero, List.set_cons_succ]
      refine wpAnyH_take (i := 1) (v := .int .i64 k) rfl (by kernel_rfl) (by kernel_rfl) (by kernel_rfl) (fun _ _ _ h => h) (Or.inl ⟨by rfl, fun _ _ => by go_simp⟩) hHeld ?_
      simp only [List.getElem_toArray, List.getElem_cons_zero, List.getElem_cons_succ, Act.put, List.setIfInBounds_toArray, List.set_cons_zero, List.set_cons_succ]
      refine wpAnyH_take (i := 2) (v := .pointer (some ⟨b, off + k * 32, none⟩)) rfl (by kernel_rfl) (by kernel_rfl) (by kernel_rfl) (fun _ _ _ h => h) (Or.inl ⟨by rfl, fun _ _ => by go_simp⟩) hHeld ?_
      simp only [List.getElem_toArray, List.getElem_cons_zero, List.getElem_cons_succ, Act.put, List.setIfInBounds_toArray, List.set_cons_zero, List.set_cons_succ]
      refine wpAnyH_take (i := 3) rfl (by kernel_rfl) (by kernel_rfl) (by kernel_rfl) (fun _ _ _ h => h) (yieldsIf_load_mid (by rfl) 31 _ rfl b (off + k * 32) rfl (bcells d) _ (fun _ h => h.1) Tryd.underlying31 rfl hmi) hHeld ?_
      simp only [List.getElem_toArray, List.getElem_cons_zero, List.getElem_cons_succ, Act.put, List.setIfInBounds_toArray, List.set_cons_zero, List.set_cons_succ]
      refine wpAnyH_take (i := 4) (v := .slice (some ⟨b', off', none⟩) ps.length cap') rfl (by kernel_rfl) (by kernel_rfl) (by kernel_rfl) (fun _ _ _ h => h) (Or.inl ⟨by rfl, fun _ _ => by go_simp⟩) hHeld ?_
      simp only [List.getElem_toArray, List.getElem_cons_zero, List.getElem_cons_succ, Act.put, List.setIfInBounds_toArray, List.set_cons_zero, List.set_cons_succ]
      refine wpAnyH_take (i := 5) (v := .int .i64 k) rfl (by kernel_rfl) (by kernel_rfl) (by kernel_rfl) (fun _ _ _ h => h) (Or.inl ⟨by rfl, fun _ _ => by go_simp⟩) hHeld ?_
      simp only [List.getElem_toArray, List.getElem_cons_zero, List.getElem_cons_succ, Act.put, List.setIfInBounds_toArray, List.set_cons_zero, List.set_cons_succ]
      refine wpAnyH_take (i := 6) (v := .pointer (some ⟨b', off' + k * 32, none⟩)) rfl (by kernel_rfl) (by kernel_rfl) (by kernel_rfl) (fun _ _ _ h => h) (Or.inl ⟨by rfl, fun _ _ => by go_simp⟩) hHeld ?_
      simp only [List.getElem_toArray, List.getElem_cons_zero, List.getElem_cons_succ, Act.put, List.setIfInBounds_toArray, List.set_cons_zero, List.set_cons_succ]
      refine wpAnyH_take (i := 7) rfl (by kernel_rfl) (by kernel_rfl) (by kernel_rfl) (fun _ _ _ h => h) (yieldsIf_load_mid (by rfl) 31 _ rfl b' (off' + k * 32) rfl (bcells d) _ (fun _ h => h.2) Tryd.underlying31 rfl hmi) hHeld ?_
      simp only [List.getElem_toArray, List.getElem_cons_zero, List.getElem_cons_succ, Act.put, List.setIfInBounds_toArray, List.set_cons_zero, List.set_cons_succ]
      refine wpAnyH_take (i := 8) (v := .bool false) rfl (by kernel_rfl) (by kernel_rfl) (by kernel_rfl) (fun _ _ _ h => h) (Or.inl ⟨by rfl, fun _ _ => by go_simp⟩) hHeld ?_
      simp only [List.getElem_toArray, List.getElem_cons_zero, List.getElem_cons_succ, Act.put, List.setIfInBounds_toArray, List.set_cons_zero, List.set_cons_succ]
      refine wpAnyH_done (by kernel_rfl) ?_ _
      clear hsame hr8 hHeld hu31
      go_wp2_with fail
      go_roundw
      case rel => exact ⟨k + 1, by omega, by go_num, hbel.drew⟩
      case measure => simp [intOf]; omega
    · go_wp2
      go_ret
      exact ⟨rfl, hbel⟩
theorem sameD_any (v v' : Value) (ps : List (List UInt8)) (w : World) (h : Digs w v ps) (h' : Digs w v' ps) (hm : ps.length ≤ 2097152) :
    Calls Tryd.prog 31 #[v, v'] w fun e w' => e = .returned (.bool true) ∧ Below w.heap.size w w' := by
  by_cases h0 : ps.length = 0
  · obtain ⟨_, ao, cap, rfl, _⟩ := h
    obtain ⟨_, ao', cap', rfl, _⟩ := h'
    rw [h0]
    exact sameD_empty ao ao' cap cap' w
  · obtain ⟨b, off, cap, rfl, _, _⟩ := digs_shape h (by omega)
    obtain ⟨b', off', cap', rfl, _, _⟩ := digs_shape h' (by omega)
    exact sameD_some b off cap b' off' cap' ps w hm h h'
end Go.Proofs.YtanfolfopalbeaaDoor
namespace Go.Proofs.YtanfolfopalbeaaDoor
open Go.RowKit

set_option maxRecDepth 100000 in
set_option maxHeartbeats 1600000 in
theorem lendK_any (v : Value) (ps : List (List UInt8)) (w : World) (h : Digs w v ps) (hm : ps.length * 32 ≤ 140737488351232) :
    Calls Tryd.prog 39 #[v] w fun e w' => e = .returned (.slice (some ⟨w.heap.size, 0, none⟩) (ps.length + 2) (ps.length + 2)) ∧
      w'.ownsRow w.heap.size 126 32 (.slice (some ⟨w.heap.size, 0, none⟩) (ps.length + 2) (ps.length + 2)) (ps.length + 2) (dcells (lentD ps)) ∧ Below w.heap.size w w' := by
  obtain ⟨i0, hi, hz0, hz1, hz2⟩ := info_parts info_sec
  obtain ⟨h0, ao, cap, rfl, hc1, hc2, hc⟩ := h
  have HC := hide hc
  have H0 := hide h0
  have HDL := hide (dcells_length ps h0)
  clear hc h0
  go_enter Tryd.func39, Tryd.ntmps39
  go_wp2_with (at_make; go_must (refine wpList_make_full _ rfl _ _ 52 rfl w.heap.size 126 i0 (.agg (bcells z32).toArray) 32 Tryd.underlying52 hi hz0 hz1 _ _ _ _ (ps.length + 2) rfl rfl (by omega) (by omega) (by rw [hz2]; omega) (by unfold maxLen; omega) (Nat.le_refl _) ?_))
  intro w1 hown1 hgrow1
  have hbel1 : Below w.heap.size w w1 := (Below.refl _ _).grown hgrow1 (Nat.le_refl _) (fun k h => by cases h)
  obtain ⟨hl1, h1⟩ := hown1
  rcases h1 with ⟨h1, _⟩ | ⟨g, cap1, cur, hv, hg1, hg2, hg3, hg4, hg5, hg6⟩
  · simp at h1
  simp only [Value.slice.injEq, Option.some.injEq, Addr.mk.injEq, and_true, true_and] at hv
  obtain ⟨hgB, hcap1⟩ := hv
  rw [← hcap1] at hg5
  rw [← hgB] at hg2
  have hcl : cur.toList.length = (ps.length + 2) * 32 := by rw [Array.length_toList]; exact hg5
  have hsrc : 0 < ps.length → ∃ ad, ao = some ad ∧ ∀ j v, (dcells ps)[j]? = some v → w1.cell? (ad.add j) = some v := by
    intro hp
    rcases unhide HC with rfl | ⟨b, off, rfl, hcc⟩
    · cases hp
    · refine ⟨_, rfl, fun j v hj => ?_⟩
      rw [add_none, hbel1.cell (p := ⟨b, off + j, none⟩) (cell_lt (hcc j v hj))]
      exact hcc j v hj
  have HG : Hid (w1.heap[w.heap.size]? = some (.cells cur.toList.toArray 126 (0, 0))) := hide (by rw [Array.toArray_toList]; exact hg2)
  have HSRC := hide hsrc
  have HCL := hide hcl
  have HINF := hide (show (Tryd.prog.info? 126).map (·.size) = some 32 from info_sc)
  clear hsrc hcl hg1 hg2 hg3 hg4 hg5 hg6 hl1 hgB hcap1 hgrow1
  go_wp2_with ((with_reducible refine at_copyD ?_); go_must (refine wpList_copy_big rfl (.tmp 9) (.tmp 10) 52 52 rfl 126 Tryd.underlying52 32 (unhide HINF) _ _ _ _ _ w.heap.size rfl rfl cur.toList 126 (unhide HG) (dcells ps) (by omega) ?c1 (unhide HSRC) ?c2 (dcells_one2 ps) w.heap.size w hbel1 (Nat.le_refl _) ?_))
  case c1 => have := unhide HDL; omega
  case c2 => have h5 := unhide HCL; have h6 := unhide HDL; omega
  intro w2 HG2 hbel2
  have hl0 : (dcells ps ++ cur.toList.drop (dcells ps).length).length = (ps.length + 2) * 32 := by
    rw [List.length_append, List.length_drop]
    have h5 := unhide HCL
    have h6 := unhide HDL
    omega
  have ht0 : (dcells ps ++ cur.toList.drop (dcells ps).length).take (ps.length * 32) = (dcells (lentD ps)).take (ps.length * 32) := by
    have h6 := unhide HDL
    have e : dcells (lentD ps) = dcells ps ++ dcells [d7, d7] := by simp [dcells, lentD]
    rw [e, List.take_left' (by omega), List.take_left' (by omega)]
  have hLe := lentD_elem ps (unhide H0)
  have hLl := lentD_length ps
  have hLa := lentD_at ps
  have hdL := dcells_length (lentD ps) hLe
  generalize dcells ps ++ cur.toList.drop (dcells ps).length = l0 at hl0 ht0 HG2
  generalize hLE : lentD ps = L at hLe hLl hLa hdL ht0
  have HLE := hide hLE
  clear hLE
  rw [hLl] at hdL
  have HDAT := hide (fun k hk => dcells_at L k hk)
  have HDTK := hide (fun k => dcells_length (L.take k) (fun d hd => hLe d (List.mem_of_mem_take hd)))
  have H7 := hide (v_sc d7 rfl)
  have HLA := hide hLa
  have HDL2 := hide hdL
  clear HC HSRC HG HCL hLe hLa hdL hbel1 HDL
  go_wp2_with fail
  go_loopw [4] (fun i wr => ∃ (k : Nat) (l2 : List Value), ps.length ≤ k ∧ k ≤ ps.length + 2 ∧ i = .int .i64 k ∧ l2.length = (ps.length + 2) * 32 ∧ l2.take (k * 32) = (dcells L).take (k * 32) ∧ wr.heap[w.heap.size]? = some (.cells l2.toArray 126 (0, 0)) ∧ Below w.heap.size w wr) (fun i _ => ps.length + 2 - (intOf i).toNat)
  case atStart => exact ⟨ps.length, l0, Nat.le_refl _, by omega, rfl, hl0, ht0, unhide HG2, hbel2⟩
  case round =>
    obtain ⟨k, l2, hk0, hk2, rfl, hl2, htk, hg, hbel⟩ := hrel
    have HGK := hide hg
    have HTK := hide htk
    clear hg htk
    by_cases hlt : k < ps.length + 2
    · have hthere : wr.there w.heap.size (k * 32) (bcells d7).toArray.size := fun j hj => by
        rw [bcells_size, d7_length] at hj
        refine ⟨?_, frozen_of_row wr w.heap.size _ _ _ (unhide HGK)⟩
        rw [cell_of_row wr w.heap.size _ _ _ _ (unhide HGK), List.getElem?_toArray, List.getElem?_eq_getElem (by omega)]
        rfl
      have HTH := hide hthere
      clear hthere
      have hd1 : decide ((k : Int) < (ps.length : Int) + 2) = true := by simp; omega
      have hka : (0 : Int) ≤ (k : Int) := by omega
      have hkb : (k : Int) < (ps.length : Int) + 2 := by omega
      go_wp2_with ((with_reducible refine at_store ?_); rw [← d7_cells]; refine wpList_store_mid rfl 126 _ _ rfl w.heap.size (k * 32) (bcells d7).toArray (by rfl) (by rfl) (unhide HTH) (unhide H7) (bcells_one d7) ?_)
      refine ⟨⟨k + 1, l2.take (k * 32) ++ bcells d7 ++ l2.drop (k * 32 + 32), by omega, by omega, by go_num, ?_, ?_, ?_, below_setC (Nat.le_refl _) _ _ hbel⟩, by simp [intOf]; omega⟩
      · simp [bcells, d7_length]
        omega
      · have h6 := unhide HDTK k
        rw [List.length_take] at h6
        have e1 := unhide HDAT k (by omega)
        rw [unhide HLA k hk0 hlt] at e1
        have e2 : (dcells L).take (k * 32) = dcells (L.take k) := by
          rw [e1, List.append_assoc, List.take_left' (by omega)]
        rw [unhide HTK, e2]
        have hb7 : (bcells d7).length = 32 := rfl
        rw [List.take_left' (by rw [List.length_append]; omega)]
        rw [e1, List.take_left' (by rw [List.length_append]; omega)]
      · rw [setC_row w.heap.size 126 (bcells d7) (k * 32) wr _ (unhide HGK) (by simp [bcells, d7_length]; omega)]
        rfl
    · have hd1 : decide ((k : Int) < (ps.length : Int) + 2) = false := by simp; omega
      have hle : l2 = dcells L := by
        have h5 := unhide HTK
        have h6 := unhide HDL2
        rw [List.take_of_length_le (by omega), List.take_of_length_le (by omega)] at h5
        exact h5
      have HO := hide (show wr.ownsRow w.heap.size 126 32 (.slice (some ⟨w.heap.size, 0, none⟩) (ps.length + 2) (ps.length + 2)) (ps.length + 2) (dcells (lentD ps)) from
        ⟨by rw [unhide HLE, unhide HDL2]; omega, .inr ⟨w.heap.size, ps.length + 2, _, rfl, Nat.le_refl _, unhide HGK, Nat.le_refl _, by unfold maxLen; omega, by simp [hl2], by rw [unhide HLE, ← hle, List.take_of_length_le (by simp [hl2])]⟩⟩)
      clear hle
      go_wp2
      go_ret
      exact ⟨rfl, unhide HO, hbel⟩

theorem sector_same (d : List UInt8) (hd : d.length = 32) (w : World) : Sem.run Tryd.prog (Op.equalIn 10000 126 (.agg (bcells d).toArray) (.agg (bcells d).toArray)) w = .ok true w := by
  rw [sector_eq d d hd hd]
  simp
set_option maxRecDepth 100000 in
set_option maxHeartbeats 1600000 in
theorem lentK_any (x v : Value) (ds : List (List UInt8)) (w : World) (hx : Digs w x (lentD ds)) (h : Digs w v ds) (hm : ds.length * 32 ≤ 140737488351232) :
    Calls Tryd.prog 43 #[x, v] w fun e w' => e = .returned (.bool true) ∧ Below w.heap.size w w' := by
  have hLl := lentD_length ds
  obtain ⟨b, off, cap, hvx, hcap, _⟩ := digs_shape hx (by omega)
  subst hvx
  have HLD := hide (lendK_any v ds w h hm)
  have HX := hide hx
  have HLE := hide (lentD_elem ds h.1)
  generalize hps : lentD ds = ps at *
  clear hps hx
  have hu31 := Tryd.underlying126
  go_enter Tryd.func43, Tryd.ntmps43
  go_wp2_with fail
  refine (unhide HLD).mono ?_
  rintro e w1 ⟨rfl, hown1, hb1⟩
  have hD1 := (unhide HX).below hb1 (Nat.le_refl _)
  have hD1' := digs_of_own (unhide HLE) hown1 (by omega)
  rw [← hLl] at hD1' ⊢
  have HD := hide hD1
  have HD' := hide hD1'
  obtain ⟨b', hb'⟩ : ∃ b', b' = w.heap.size := ⟨_, rfl⟩
  rw [← hb'] at HD' ⊢
  have hbel1 := hb1
  clear hown1 hb1 HLD HX hD1 hD1' h
  go_wp2_with fail
  go_loopw [6] (fun i wr => ∃ k : Nat, k ≤ ps.length ∧ i = .int .i64 k ∧ Below w1.heap.size w1 wr) (fun i _ => ps.length - (intOf i).toNat)
  case atStart => exact ⟨0, Nat.zero_le _, rfl, Below.refl _ _⟩
  case round =>
    obtain ⟨k, hk, rfl, hbel⟩ := hrel
    by_cases hlt : k < ps.length
    · have hr1 := rangeAt_below (digs_at (unhide HD) k hlt) hbel (Nat.le_refl _)
      have hr2 := rangeAt_below (digs_at (unhide HD') k hlt) hbel (Nat.le_refl _)
      have hdl := digs_len (unhide HD) k hlt
      generalize ps.getD k [] = d at hr1 hr2 hdl
      have hmi := v_scm d hdl
      have hsame := fun wq => sector_same d hdl wq
      have hlti : (k : Int) < (ps.length : Int) := by omega
      have hk0 : (0 : Int) ≤ (k : Int) := by omega
      have hr8 : wr.drew.rangeAt b (off + k * 32) (bcells d) ∧ wr.drew.rangeAt b' (0 + k * 32) (bcells d) := ⟨hr1, hr2⟩
      clear hr1 hr2
      go_wp2_with fail
      refine wp_region_held_drew (S := fun w' => w'.rangeAt b (off + k * 32) (bcells d) ∧ w'.rangeAt b' (0 + k * 32) (bcells d)) (by kernel_rfl) hr8 (fun hHeld => ?_)
      refine wpAnyH_take (i := 0) (v := .slice (some ⟨b, off, none⟩) ps.length cap) rfl (by kernel_rfl) (by kernel_rfl) (by kernel_rfl) (fun _ _ _ h => h) (Or.inl ⟨by rfl, fun _ _ => by go_simp⟩) hHeld ?_
      simp only [List.getElem_toArray, List.getElem_cons_zero, Act.put, List.setIfInBounds_toArray, List.set_cons_zero, List.set_cons_succ]
      refine wpAnyH_take (i := 1) (v := .int .i64 k) rfl (by kernel_rfl) (by kernel_rfl) (by kernel_rfl) (fun _ _ _ h => h) (Or.inl ⟨by rfl, fun _ _ => by go_simp⟩) hHeld ?_
      simp only [List.getElem_toArray, List.getElem_cons_zero, List.getElem_cons_succ, Act.put, List.setIfInBounds_toArray, List.set_cons_zero, List.set_cons_succ]
      refine wpAnyH_take (i := 2) (v := .pointer (some ⟨b, off + k * 32, none⟩)) rfl (by kernel_rfl) (by kernel_rfl) (by kernel_rfl) (fun _ _ _ h => h) (Or.inl ⟨by rfl, fun _ _ => by go_simp⟩) hHeld ?_
      simp only [List.getElem_toArray, List.getElem_cons_zero, List.getElem_cons_succ, Act.put, List.setIfInBounds_toArray, List.set_cons_zero, List.set_cons_succ]
      refine wpAnyH_take (i := 3) rfl (by kernel_rfl) (by kernel_rfl) (by kernel_rfl) (fun _ _ _ h => h) (yieldsIf_load_mid (by rfl) 126 _ rfl b (off + k * 32) rfl (bcells d) _ (fun _ h => h.1) Tryd.underlying126 rfl hmi) hHeld ?_
      simp only [List.getElem_toArray, List.getElem_cons_zero, List.getElem_cons_succ, Act.put, List.setIfInBounds_toArray, List.set_cons_zero, List.set_cons_succ]
      refine wpAnyH_take (i := 4) (v := .slice (some ⟨b', 0, none⟩) ps.length ps.length) rfl (by kernel_rfl) (by kernel_rfl) (by kernel_rfl) (fun _ _ _ h => h) (Or.inl ⟨by rfl, fun _ _ => by go_simp⟩) hHeld ?_
      simp only [List.getElem_toArray, List.getElem_cons_zero, List.getElem_cons_succ, Act.put, List.setIfInBounds_toArray, List.set_cons_zero, List.set_cons_succ]
      refine wpAnyH_take (i := 5) (v := .int .i64 k) rfl (by kernel_rfl) (by kernel_rfl) (by kernel_rfl) (fun _ _ _ h => h) (Or.inl ⟨by rfl, fun _ _ => by go_simp⟩) hHeld ?_
      simp only [List.getElem_toArray, List.getElem_cons_zero, List.getElem_cons_succ, Act.put, List.setIfInBounds_toArray, List.set_cons_zero, List.set_cons_succ]
      refine wpAnyH_take (i := 6) (v := .pointer (some ⟨b', 0 + k * 32, none⟩)) rfl (by kernel_rfl) (by kernel_rfl) (by kernel_rfl) (fun _ _ _ h => h) (Or.inl ⟨by rfl, fun _ _ => by go_simp⟩) hHeld ?_
      simp only [List.getElem_toArray, List.getElem_cons_zero, List.getElem_cons_succ, Act.put, List.setIfInBounds_toArray, List.set_cons_zero, List.set_cons_succ]
      refine wpAnyH_take (i := 7) rfl (by kernel_rfl) (by kernel_rfl) (by kernel_rfl) (fun _ _ _ h => h) (yieldsIf_load_mid (by rfl) 126 _ rfl b' (0 + k * 32) rfl (bcells d) _ (fun _ h => h.2) Tryd.underlying126 rfl hmi) hHeld ?_
      simp only [List.getElem_toArray, List.getElem_cons_zero, List.getElem_cons_succ, Act.put, List.setIfInBounds_toArray, List.set_cons_zero, List.set_cons_succ]
      refine wpAnyH_take (i := 8) (v := .bool false) rfl (by kernel_rfl) (by kernel_rfl) (by kernel_rfl) (fun _ _ _ h => h) (Or.inl ⟨by rfl, fun _ _ => by go_simp⟩) hHeld ?_
      simp only [List.getElem_toArray, List.getElem_cons_zero, List.getElem_cons_succ, Act.put, List.setIfInBounds_toArray, List.set_cons_zero, List.set_cons_succ]
      refine wpAnyH_done (by kernel_rfl) ?_ _
      clear hsame hr8 hHeld hu31
      go_wp2_with fail
      go_roundw
      case rel => exact ⟨k + 1, by omega, by go_num, hbel.drew⟩
      case measure => simp [intOf]; omega
    · go_wp2
      go_ret
      exact ⟨rfl, hbel1.trans (hbel.mono hbel1.size)⟩

set_option maxRecDepth 100000 in
set_option maxHeartbeats 400000 in
theorem planned_nil (ao : Option Addr) (cap n : Nat) (w : World) :
    Calls Tryd.prog 46 #[.slice ao 0 cap, .int .i64 n] w fun e w' => e = .returned (.bool true) ∧ w' = w := by
  go_enter Tryd.func46, Tryd.ntmps46
  go_wp2
  refine wp_loop_rounds 1 ?_
  rw [rounds_succ]
  go_wp2
  go_ret
  exact ⟨rfl, rfl⟩
def itAtL (l : List It) (k : Nat) : It := l.getD k fIt0
theorem itAtL_mem (l : List It) (k : Nat) (h : k < l.length) : itAtL l k ∈ l := by
  unfold itAtL
  rw [List.getD, List.getElem?_eq_getElem h]
  exact List.getElem_mem h
theorem pcellsL_at (l : List It) (h : ∀ x ∈ l, x.data.length = 32) (k : Nat) (hk : k < l.length) : ∀ j, j < 34 → (pcells l)[k * 34 + j]? = (itcells (itAtL l k))[j]? := by
  intro j hj
  have e : l = l.take k ++ (itAtL l k :: l.drop (k + 1)) := by
    unfold itAtL
    rw [List.getD, List.getElem?_eq_getElem hk, Option.getD_some, List.getElem_cons_drop, List.take_append_drop]
  have hl : (pcells (l.take k)).length = k * 34 := by
    rw [pcells_length _ (fun x hx => h x (List.mem_of_mem_take hx)), List.length_take]
    rw [Nat.min_eq_left (by omega)]
    omega
  have hc : pcells l = pcells (l.take k) ++ (itcells (itAtL l k) ++ pcells (l.drop (k + 1))) := by
    conv => lhs; rw [e]
    simp [pcells]
  rw [hc, List.getElem?_append_right (by omega), hl, show k * 34 + j - k * 34 = j by omega, List.getElem?_append_left (by rw [itcells_length _ (h _ (itAtL_mem l k hk))]; exact hj)]
theorem plan_cell {w : World} {B gp cp n : Nat} {its : List It} (h : w.ownsRow B 131 34 (.slice (some ⟨gp, 0, none⟩) n cp) n (pcells its)) (hn : n = its.length) (hd : ∀ x ∈ its, x.data.length = 32) : ∀ k, k < its.length → ∀ j, j < 34 → w.cell? ⟨gp, k * 34 + j, none⟩ = (itcells (itAtL its k))[j]? := by
  intro k hk j hj
  obtain ⟨hpl, hp⟩ := h
  rcases hp with ⟨hp, _⟩ | ⟨g, c, cur, hv, _, hg, hp1, hp2, hp3, hp4⟩
  · simp at hp
  simp only [Value.slice.injEq, Option.some.injEq, Addr.mk.injEq, and_true, true_and] at hv
  obtain ⟨rfl, rfl⟩ := hv
  subst hn
  rw [cell_of_row w gp _ _ _ _ hg, ← pcellsL_at its hd k hk j hj, ← hp4]
  rw [List.getElem?_take_of_lt (by omega)]
  simp
set_option maxRecDepth 100000 in
set_option maxHeartbeats 800000 in
theorem planned_some (gp cp B : Nat) (its : List It) (n : Nat) (w : World) (h : w.ownsRow B 131 34 (.slice (some ⟨gp, 0, none⟩) its.length cp) its.length (pcells its)) (hl : its.length ≤ 1000) (hi : ∀ x ∈ its, x.data.length = 32 ∧ x.at_ < n) :
    Calls Tryd.prog 46 #[.slice (some ⟨gp, 0, none⟩) its.length cp, .int .i64 n] w fun e w' => e = .returned (.bool true) ∧ w' = w := by
  have HC := hide (plan_cell h rfl (fun x hx => (hi x hx).1))
  have HI := hide hi
  have hd0 : decide ((1000 : Int) < (its.length : Int)) = false := by simp; omega
  clear h hi
  go_enter Tryd.func46, Tryd.ntmps46
  go_wp2
  go_loop [5] (fun i => ∃ k : Nat, k ≤ its.length ∧ i = .int .i64 k) (fun i => its.length - (intOf i).toNat)
  case atStart => exact ⟨0, Nat.zero_le _, rfl⟩
  case round =>
    obtain ⟨k, hk, rfl⟩ := hrel
    by_cases hlt : k < its.length
    · have hd1 : decide ((k : Int) < (its.length : Int)) = true := by simp; omega
      have hx := unhide HI _ (itAtL_mem its k hlt)
      have c0 := unhide HC k hlt 0 (by omega)
      have c1 := unhide HC k hlt 1 (by omega)
      generalize itAtL its k = x at hx c0 c1
      rw [Nat.add_zero] at c0
      have c0' : w.cell? ⟨gp, k * 34, none⟩ = some (.bool x.fl) := c0
      have c1' : w.cell? ⟨gp, k * 34 + 1, none⟩ = some (.int .i64 (x.at_ : Int)) := c1
      have hk0 : (0 : Int) ≤ (k : Int) := by omega
      have hk1 : (k : Int) < (its.length : Int) := by omega
      have hd3 : decide ((x.at_ : Int) < 0) = false := by simp
      have hd4 : decide ((n : Int) ≤ (x.at_ : Int)) = false := by simp; omega
      have hd5 : ¬ n ≤ x.at_ := by omega
      clear c0 c1 hx
      cases hf : x.fl with
      | true =>
        rw [hf] at c0'
        go_wp2
        go_round
        case rel => exact ⟨k + 1, by omega, by go_num⟩
        case measure => simp [intOf]; omega
      | false =>
        rw [hf] at c0'
        go_wp2
        go_round
        case rel => exact ⟨k + 1, by omega, by go_num⟩
        case measure => simp [intOf]; omega
    · have hd1 : decide ((k : Int) < (its.length : Int)) = false := by simp; omega
      go_wp2
      go_ret
      exact ⟨rfl, rfl⟩
theorem planned_any (v : Value) (B : Nat) (its : List It) (n : Nat) (w : World) (h : w.ownsRow B 131 34 v its.length (pcells its)) (hl : its.length ≤ 1000) (hi : ∀ x ∈ its, x.data.length = 32 ∧ x.at_ < n) :
    Calls Tryd.prog 46 #[v, .int .i64 n] w fun e w' => e = .returned (.bool true) ∧ w' = w := by
  have h' := h
  rcases h.2 with ⟨rfl, h0⟩ | ⟨g, c, cur, hv, _⟩
  · rw [h0] at *
    exact planned_nil none 0 n w
  · subst hv
    exact planned_some g c B its n w h' hl hi
end Go.Proofs.YtanfolfopalbeaaDoor
namespace Go.Proofs.YtanfolfopalbeaaDoor
open Go.RowKit

/-- An item's cells. -/
def ixcells (f : Bool) (a : Int) (d : List UInt8) : List Value := .bool f :: .int .i64 a :: bcells d
theorem row_same (n : Nat) (a : List UInt8) (w : World) : ∀ is : List Nat, (∀ i ∈ is, i < a.length) → (Op.eqItems (n + 1) 5 1 (bcells a).toArray (bcells a).toArray is).run Tryd.prog w = .ok true w := by
  intro is
  induction is with
  | nil => intro _; simp [Op.eqItems]
  | cons i is ih =>
    intro h
    have hi := h i (by simp)
    have hc : (bcells a).toArray[i * 1]? = some (.int .u8 ((a.getD i 0).toNat : Int)) := by
      rw [Nat.mul_one]
      simp [bcells, List.getD, List.getElem?_eq_getElem hi]
    have hp := run_part_plain w plain_u8 hc
    have he := run_equalIn_int (P := Tryd.prog) (w := w) n 5 .u8 _ ((a.getD i 0).toNat : Int) ((a.getD i 0).toNat : Int) Tryd.underlying5
    rw [beq_self_eq_true] at he
    simp only [Op.eqItems, Sem.run_bind, hp, Result.andThen_ok, he, Bool.not_true, Bool.false_eq_true, if_false]
    exact ih fun j hj => h j (by simp [hj])
theorem sector_same_at (n : Nat) (d : List UInt8) (hd : d.length = 32) (w : World) : Sem.run Tryd.prog (Op.equalIn (n + 2) 126 (.agg (bcells d).toArray) (.agg (bcells d).toArray)) w = .ok true w := by
  have h := info_u8
  cases hi : Tryd.prog.info? 5 with
  | none => rw [hi] at h; cases h
  | some i =>
    have := run_equalIn_array (P := Tryd.prog) w (n + 1) (bcells d).toArray (bcells d).toArray Tryd.underlying126 hi
    rw [this, cells_u8, row_same n d w _ fun j hj => by rw [hd]; exact List.mem_range.1 hj]
theorem wr_fields : ((Tryd.prog.fieldsOf 131).toList.map fun f => (f.name, f.type, f.offset)) = [("Flush", 4, 0), ("At", 3, 1), ("Data", 126, 2)] := by kernel_rfl
theorem wr_struct : Tryd.prog.underlying 131 = some (.struct (Tryd.prog.fieldsOf 131)) := by kernel_rfl
theorem wr_held : Tryd.prog.stoodInHeld 131 = false := by kernel_rfl
theorem plain_bool : Tryd.prog.plainKey 4 = true := by kernel_rfl
theorem plain_int : Tryd.prog.plainKey 3 = true := by kernel_rfl
theorem cells_sec : Tryd.prog.cellsOf 126 = 32 := by kernel_rfl
theorem cut_two (x y : Value) (l : List Value) (h : l.length = 32) : (x :: y :: l).toArray.extract 2 (2 + 32) = l.toArray := by
  apply Array.toList_inj.1
  rw [Array.toList_extract, List.extract]
  show List.take (2 + 32 - 2) l = l
  rw [List.take_of_length_le (by omega)]
theorem part_data (f : Bool) (a : Int) (d : List UInt8) (hd : d.length = 32) (w : World) : (part 126 (ixcells f a d).toArray 2).run Tryd.prog w = .ok (.agg (bcells d).toArray) w := by
  have hu := Tryd.underlying126
  obtain ⟨i, hi⟩ := info_of_underlying hu
  have ha : (isAgg 126).run Tryd.prog w = .ok true w := by
    simp [isAgg, run_underlying hu]
  have hs := run_sizeOf w hi
  rw [cells_sec] at hs
  simp only [part, Sem.run_bind, ha, Result.andThen_ok, if_true, hs, Sem.run_pure]
  have hl : (bcells d).length = 32 := by rw [bcells_length, hd]
  rw [ixcells, cut_two _ _ _ hl]
theorem three_of {fs : List Field} {x y z : String × TypeId × Nat} (h : (fs.map fun f => (f.name, f.type, f.offset)) = [x, y, z]) : ∃ f1 f2 f3 : Field, fs = [f1, f2, f3] ∧ (f1.name = x.1 ∧ f1.type = x.2.1 ∧ f1.offset = x.2.2) ∧ (f2.name = y.1 ∧ f2.type = y.2.1 ∧ f2.offset = y.2.2) ∧ (f3.name = z.1 ∧ f3.type = z.2.1 ∧ f3.offset = z.2.2) := by
  match fs, h with
  | [f1, f2, f3], h =>
    simp only [List.map_cons, List.map_nil, List.cons.injEq, and_true] at h
    obtain ⟨rfl, rfl, rfl⟩ := h
    exact ⟨f1, f2, f3, rfl, ⟨rfl, rfl, rfl⟩, ⟨rfl, rfl, rfl⟩, ⟨rfl, rfl, rfl⟩⟩
theorem eq_three {P : Program} (w : World) (n : Nat) (f1 f2 f3 : Field) (X : Array Value) (a b c : Value) (n1 : f1.name ≠ "_") (n2 : f2.name ≠ "_") (n3 : f3.name ≠ "_")
    (p1 : (part f1.type X f1.offset).run P w = .ok a w) (p2 : (part f2.type X f2.offset).run P w = .ok b w) (p3 : (part f3.type X f3.offset).run P w = .ok c w)
    (e1 : (Op.equalIn n f1.type a a).run P w = .ok true w) (e2 : (Op.equalIn n f2.type b b).run P w = .ok true w) (e3 : (Op.equalIn n f3.type c c).run P w = .ok true w) : (Op.eqFields n X X [f1, f2, f3]).run P w = .ok true w := by
  simp only [Op.eqFields, if_pos n1, if_pos n2, if_pos n3, Sem.run_bind, p1, p2, p3, Result.andThen_ok, e1, e2, e3, Bool.not_true, Bool.false_eq_true, if_false, Sem.run_pure]
/-- '==' of an item with itself. -/
theorem item_same_at (n : Nat) (f : Bool) (a : Int) (d : List UInt8) (hd : d.length = 32) (w : World) : Sem.run Tryd.prog (Op.equalIn (n + 3) 131 (.agg (ixcells f a d).toArray) (.agg (ixcells f a d).toArray)) w = .ok true w := by
  obtain ⟨f1, f2, f3, hfs, ⟨n1, t1, o1⟩, ⟨n2, t2, o2⟩, n3, t3, o3⟩ := three_of wr_fields
  refine (run_equalIn_struct (P := Tryd.prog) w (n + 2) 131 _ _ wr_struct wr_held).trans ?_
  rw [hfs]
  clear hfs
  have c0 : (ixcells f a d).toArray[0]? = some (.bool f) := by simp [ixcells]
  have c1 : (ixcells f a d).toArray[1]? = some (.int .i64 a) := by simp [ixcells]
  have p0 := run_part_plain w plain_bool c0
  have p1 := run_part_plain w plain_int c1
  have p2 := part_data f a d hd w
  have e0 := run_equalIn_bool' (P := Tryd.prog) (w := w) (n + 1) 4 f f Tryd.underlying4
  have e1 := run_equalIn_int (P := Tryd.prog) (w := w) (n + 1) 3 .i64 _ a a Tryd.underlying3
  have e2 := sector_same_at n d hd w
  rw [beq_self_eq_true] at e0 e1
  refine eq_three w (n + 2) f1 f2 f3 _ (.bool f) (.int .i64 a) (.agg (bcells d).toArray) ?_ ?_ ?_ ?_ ?_ ?_ ?_ ?_ ?_
  · rw [n1]; decide
  · rw [n2]; decide
  · rw [n3]; decide
  · rw [t1, o1]; exact p0
  · rw [t2, o2]; exact p1
  · rw [t3, o3]; exact p2
  · rw [t1]; exact e0
  · rw [t2]; exact e1
  · rw [t3]; exact e2
theorem item_same (f : Bool) (a : Int) (d : List UInt8) (hd : d.length = 32) (w : World) : Sem.run Tryd.prog (Op.equalIn 10000 131 (.agg (ixcells f a d).toArray) (.agg (ixcells f a d).toArray)) w = .ok true w := item_same_at 9997 f a d hd w
end Go.Proofs.YtanfolfopalbeaaDoor
namespace Go.Proofs.YtanfolfopalbeaaDoor
open Go.RowKit

theorem v_wrm (f : Bool) (a : Int) (d : List UInt8) (h : d.length = 32) : (Tryd.prog.info? 131).map (·.size) = some (ixcells f a d).length := by
  have e : (ixcells f a d).length = 34 := by simp [ixcells, bcells_length, h]
  rw [e]
  exact info_wrs
/-- An item of a plan, where it stands. -/
theorem item_at {w : World} {B g c : Nat} {its : List It} (h : w.ownsRow B 131 34 (.slice (some ⟨g, 0, none⟩) its.length c) its.length (pcells its)) (h32 : ∀ x ∈ its, x.data.length = 32) (k : Nat) (hk : k < its.length) : w.rangeAt g (k * 34) (itcells (itAtL its k)) := by
  intro j u hu
  have hj : j < 34 := by
    have := (List.getElem?_eq_some_iff.1 hu).1
    rw [itcells_length _ (h32 _ (itAtL_mem its k hk))] at this
    exact this
  have := h.cells (g := g) rfl (k * 34 + j) u (by rw [pcellsL_at its h32 k hk j hj]; exact hu)
  rwa [Addr.add_lit, Nat.zero_add] at this
set_option maxRecDepth 100000 in
set_option maxHeartbeats 1600000 in
theorem plansame_some (g c g' c' B B' : Nat) (its : List It) (w : World) (h : w.ownsRow B 131 34 (.slice (some ⟨g, 0, none⟩) its.length c) its.length (pcells its)) (h' : w.ownsRow B' 131 34 (.slice (some ⟨g', 0, none⟩) its.length c') its.length (pcells its)) (hl : its.length ≤ 1000) (h32 : ∀ x ∈ its, x.data.length = 32) :
    Calls Tryd.prog 75 #[.slice (some ⟨g, 0, none⟩) its.length c, .slice (some ⟨g', 0, none⟩) its.length c'] w fun e w' => e = .returned (.bool true) ∧ Below w.heap.size w w' := by
  have HA := hide (item_at h h32)
  have HB := hide (item_at h' h32)
  have H32 := hide h32
  clear h h' h32
  have hu31 := Tryd.underlying131
  have hne : (decide ((its.length : Int) ≠ (its.length : Int))) = false := by simp
  go_enter Tryd.func75, Tryd.ntmps75
  go_wp2_with fail
  go_loopw [5] (fun i wr => ∃ k : Nat, k ≤ its.length ∧ i = .int .i64 k ∧ Below w.heap.size w wr) (fun i _ => its.length - (intOf i).toNat)
  case atStart => exact ⟨0, Nat.zero_le _, rfl, Below.refl _ _⟩
  case round =>
    obtain ⟨k, hk, rfl, hbel⟩ := hrel
    by_cases hlt : k < its.length
    · have hr1 := rangeAt_below (unhide HA k hlt) hbel (Nat.le_refl _)
      have hr2 := rangeAt_below (unhide HB k hlt) hbel (Nat.le_refl _)
      have hdl := unhide H32 _ (itAtL_mem its k hlt)
      generalize itAtL its k = x at hr1 hr2 hdl
      obtain ⟨f, a0, d⟩ := x
      simp only at hdl
      have hx : ∀ j : Nat, itcells ⟨f, j, d⟩ = ixcells f (j : Int) d := fun _ => rfl
      rw [hx] at hr1 hr2
      generalize ((a0 : Nat) : Int) = a at hr1 hr2
      have hmi := v_wrm f a d hdl
      have hsame := fun wq => item_same f a d hdl wq
      have hlti : (k : Int) < (its.length : Int) := by omega
      have hk0 : (0 : Int) ≤ (k : Int) := by omega
      have hr8 : wr.drew.rangeAt g (k * 34) (ixcells f a d) ∧ wr.drew.rangeAt g' (k * 34) (ixcells f a d) := ⟨hr1, hr2⟩
      clear hr1 hr2 hx
      go_wp2_with fail
      refine wp_region_held_drew (S := fun w' => w'.rangeAt g (k * 34) (ixcells f a d) ∧ w'.rangeAt g' (k * 34) (ixcells f a d)) (by kernel_rfl) hr8 (fun hHeld => ?_)
      refine wpAnyH_take (i := 0) (v := .slice (some ⟨g, 0, none⟩) its.length c) rfl (by kernel_rfl) (by kernel_rfl) (by kernel_rfl) (fun _ _ _ h => h) (Or.inl ⟨by rfl, fun _ _ => by go_simp⟩) hHeld ?_
      simp only [List.getElem_toArray, List.getElem_cons_zero, Act.put, List.setIfInBounds_toArray, List.set_cons_zero, List.set_cons_succ]
      refine wpAnyH_take (i := 1) (v := .int .i64 k) rfl (by kernel_rfl) (by kernel_rfl) (by kernel_rfl) (fun _ _ _ h => h) (Or.inl ⟨by rfl, fun _ _ => by go_simp⟩) hHeld ?_
      simp only [List.getElem_toArray, List.getElem_cons_zero, List.getElem_cons_succ, Act.put, List.setIfInBounds_toArray, List.set_cons_zero, List.set_cons_succ]
      refine wpAnyH_take (i := 2) (v := .pointer (some ⟨g, k * 34, none⟩)) rfl (by kernel_rfl) (by kernel_rfl) (by kernel_rfl) (fun _ _ _ h => h) (Or.inl ⟨by rfl, fun _ _ => by go_simp⟩) hHeld ?_
      simp only [List.getElem_toArray, List.getElem_cons_zero, List.getElem_cons_succ, Act.put, List.setIfInBounds_toArray, List.set_cons_zero, List.set_cons_succ]
      refine wpAnyH_take (i := 3) rfl (by kernel_rfl) (by kernel_rfl) (by kernel_rfl) (fun _ _ _ h => h) (yieldsIf_load_mid (by rfl) 131 _ rfl g (k * 34) rfl (ixcells f a d) _ (fun _ h => h.1) Tryd.underlying131 rfl hmi) hHeld ?_
      simp only [List.getElem_toArray, List.getElem_cons_zero, List.getElem_cons_succ, Act.put, List.setIfInBounds_toArray, List.set_cons_zero, List.set_cons_succ]
      refine wpAnyH_take (i := 4) (v := .slice (some ⟨g', 0, none⟩) its.length c') rfl (by kernel_rfl) (by kernel_rfl) (by kernel_rfl) (fun _ _ _ h => h) (Or.inl ⟨by rfl, fun _ _ => by go_simp⟩) hHeld ?_
      simp only [List.getElem_toArray, List.getElem_cons_zero, List.getElem_cons_succ, Act.put, List.setIfInBounds_toArray, List.set_cons_zero, List.set_cons_succ]
      refine wpAnyH_take (i := 5) (v := .int .i64 k) rfl (by kernel_rfl) (by kernel_rfl) (by kernel_rfl) (fun _ _ _ h => h) (Or.inl ⟨by rfl, fun _ _ => by go_simp⟩) hHeld ?_
      simp only [List.getElem_toArray, List.getElem_cons_zero, List.getElem_cons_succ, Act.put, List.setIfInBounds_toArray, List.set_cons_zero, List.set_cons_succ]
      refine wpAnyH_take (i := 6) (v := .pointer (some ⟨g', k * 34, none⟩)) rfl (by kernel_rfl) (by kernel_rfl) (by kernel_rfl) (fun _ _ _ h => h) (Or.inl ⟨by rfl, fun _ _ => by go_simp⟩) hHeld ?_
      simp only [List.getElem_toArray, List.getElem_cons_zero, List.getElem_cons_succ, Act.put, List.setIfInBounds_toArray, List.set_cons_zero, List.set_cons_succ]
      refine wpAnyH_take (i := 7) rfl (by kernel_rfl) (by kernel_rfl) (by kernel_rfl) (fun _ _ _ h => h) (yieldsIf_load_mid (by rfl) 131 _ rfl g' (k * 34) rfl (ixcells f a d) _ (fun _ h => h.2) Tryd.underlying131 rfl hmi) hHeld ?_
      simp only [List.getElem_toArray, List.getElem_cons_zero, List.getElem_cons_succ, Act.put, List.setIfInBounds_toArray, List.set_cons_zero, List.set_cons_succ]
      refine wpAnyH_take (i := 8) (v := .bool false) rfl (by kernel_rfl) (by kernel_rfl) (by kernel_rfl) (fun _ _ _ h => h) (Or.inl ⟨by rfl, fun _ _ => by go_simp⟩) hHeld ?_
      simp only [List.getElem_toArray, List.getElem_cons_zero, List.getElem_cons_succ, Act.put, List.setIfInBounds_toArray, List.set_cons_zero, List.set_cons_succ]
      refine wpAnyH_done (by kernel_rfl) ?_ _
      clear hsame hr8 hHeld hu31
      go_wp2_with fail
      go_roundw
      case rel => exact ⟨k + 1, by omega, by go_num, hbel.drew⟩
      case measure => simp [intOf]; omega
    · go_wp2
      go_ret
      exact ⟨rfl, hbel⟩
set_option maxRecDepth 100000 in
set_option maxHeartbeats 400000 in
theorem plansame_nil (ao ao' : Option Addr) (c c' : Nat) (w : World) :
    Calls Tryd.prog 75 #[.slice ao 0 c, .slice ao' 0 c'] w fun e w' => e = .returned (.bool true) ∧ Below w.heap.size w w' := by
  go_enter Tryd.func75, Tryd.ntmps75
  go_wp2
  refine wp_loop_rounds 1 ?_
  rw [rounds_succ]
  go_wp2
  go_ret
  exact ⟨rfl, Below.refl _ _⟩
theorem plansame_any (v v' : Value) (B B' : Nat) (its : List It) (w : World) (h : w.ownsRow B 131 34 v its.length (pcells its)) (h' : w.ownsRow B' 131 34 v' its.length (pcells its)) (hl : its.length ≤ 1000) (h32 : ∀ x ∈ its, x.data.length = 32) :
    Calls Tryd.prog 75 #[v, v'] w fun e w' => e = .returned (.bool true) ∧ Below w.heap.size w w' := by
  have q := h
  have q' := h'
  rcases h.2 with ⟨rfl, h0⟩ | ⟨g, c, cur, hv, _⟩
  · rcases h'.2 with ⟨rfl, _⟩ | ⟨g', c', cur', hv', _⟩
    · exact plansame_nil _ _ _ _ w
    · subst hv'
      rw [h0]
      exact plansame_nil _ _ _ _ w
  · subst hv
    rcases h'.2 with ⟨rfl, h0⟩ | ⟨g', c', cur', hv', _⟩
    · rw [h0]
      exact plansame_nil _ _ _ _ w
    · subst hv'
      exact plansame_some g c g' c' B B' its w q q' hl h32
end Go.Proofs.YtanfolfopalbeaaDoor
namespace Go.Proofs.YtanfolfopalbeaaDoor
open Go.RowKit

theorem bel_of_grown {w w' : World} (h : w.grownBy w' none) : Below w.heap.size w w' := ⟨h.os, h.tape, h.output, h.size, fun k hk => h.block k hk (fun e => by cases e)⟩
set_option maxRecDepth 100000 in
set_option maxHeartbeats 3200000 in
theorem disksG_any (ty : TypeId) (o : Nat) (P P' : Nat → Prop) (B B' G : Nat) (cs : Array Value) (tv xv pv qv : Value) (w0 w0' w : World) (recs recp : List (Value × List Value))
    (S : StG (Ks ty o) P B w0 w G cs tv xv (recs.map (·.1)) (recs.map (·.2)) recs (.slice none 0 0) 0 []) (Sp : StG (Kp ty o) P' B' w0' w G cs pv qv (recp.map (·.1)) (recp.map (·.2)) recp (.slice none 0 0) 0 []) (hM : Marked Ms P recs) (hN : Marked Mp P' recp) (hl : recs.length ≤ 1099511627776) (hp : recp.length ≤ 1099511627776) :
    Calls Tryd.prog 62 #[.pointer (some ⟨G, o, none⟩)] w fun e w' => e = .returned (.bool true) ∧ Below w.heap.size w w' := by
  have HS := hide S
  have HP := hide Sp
  have HM := hide hM
  have HN := hide hN
  clear S Sp hM hN
  go_enter Tryd.func62, Tryd.ntmps62
  go_wp2
  go_loopw [3] (fun v wr => ∃ k : Nat, k ≤ recs.length ∧ v = .int .i64 k ∧ w.grownBy wr none) (fun v _ => recs.length - (intOf v).toNat)
  case atStart => exact ⟨0, Nat.zero_le _, rfl, grown_refl _ _⟩
  case round =>
    obtain ⟨k, hk, rfl, hgr⟩ := hrel
    have HGR := hide hgr
    clear hgr
    by_cases hlt : k < recs.length
    · have hd : decide ((k : Int) < (recs.length : Int)) = true := by simp; omega
      have j1 : (k : Int) < (recs.length : Int) := by omega
      have S := (unhide HS).later (unhide HGR)
      obtain ⟨gt, ct, gx, cx, ao, n, cap, rfl, rfl, hrk1, hn1, hn2⟩ := S.look k hlt
      obtain ⟨mk, hrk⟩ : ∃ mk, recs[k] = (.slice ao n cap, mk) := ⟨recs[k].2, Prod.ext hrk1 rfl⟩
      obtain ⟨d, hd32, rfl⟩ : Ms mk := by
        have := (unhide HM recs[k] (List.getElem_mem hlt)).1
        rwa [hrk] at this
      have c1 : wr.cell? ⟨G, o + 5, none⟩ = some (.slice (some ⟨gt, 0, none⟩) recs.length ct) := S.bk.cell1
      have ctk := (S.read k hlt hrk).1
      have HRK := hide hrk
      have hmi := v_scm d hd32
      have hsame := fun wq => sector_same d hd32 wq
      unfold maxLen at hn2
      clear S hrk hrk1
      go_wp2
      go_loopw [4] (fun v wq => ∃ i : Nat, i ≤ n ∧ v = .int .i64 i ∧ wr.grownBy wq none) (fun v _ => n - (intOf v).toNat)
      case atStart => exact ⟨0, Nat.zero_le _, rfl, grown_refl _ _⟩
      case round =>
        obtain ⟨i, hi, rfl, hgq⟩ := hrel
        have S := ((unhide HS).later (unhide HGR)).later hgq
        have HGQ := hide hgq
        have e1 : wr.cell? ⟨G, o + 5, none⟩ = some (.slice (some ⟨gt, 0, none⟩) recs.length ct) := S.bk.cell1
        have e3 : wr.cell? ⟨G, o + 6, none⟩ = some (.slice (some ⟨gx, 0, none⟩) recs.length cx) := S.bk.cell2
        obtain ⟨e2, e4, h3⟩ := S.read k hlt (unhide HRK)
        by_cases hin : i < n
        · have hd2 : decide ((i : Int) < (n : Int)) = true := by simp; omega
          have j2 : (i : Int) < (n : Int) := by omega
          obtain ⟨g, hao, hc⟩ := h3 (by omega)
          subst hao
          have e5 := hc i hin
          have hS0 : wr.drew.cell? ⟨G, o + 5, none⟩ = some (.slice (some ⟨gt, 0, none⟩) recs.length ct) ∧ wr.drew.cell? ⟨gt, k, none⟩ = some (.slice (some ⟨g, 0, none⟩) n cap) ∧ wr.drew.cell? ⟨G, o + 6, none⟩ = some (.slice (some ⟨gx, 0, none⟩) recs.length cx) ∧ wr.drew.rangeAt g (i * 32) (bcells d) ∧ wr.drew.rangeAt gx (k * 32) (bcells d) := ⟨e1, e2, e3, e5, e4⟩
          clear hc h3 S hgq
          go_wp2
          clear e4 e5
          have hu31 := Tryd.underlying126
          refine wp_region_held_drew (S := fun w' => w'.cell? ⟨G, o + 5, none⟩ = some (.slice (some ⟨gt, 0, none⟩) recs.length ct) ∧ w'.cell? ⟨gt, k, none⟩ = some (.slice (some ⟨g, 0, none⟩) n cap) ∧ w'.cell? ⟨G, o + 6, none⟩ = some (.slice (some ⟨gx, 0, none⟩) recs.length cx) ∧ w'.rangeAt g (i * 32) (bcells d) ∧ w'.rangeAt gx (k * 32) (bcells d)) (by kernel_rfl) hS0 (fun hHeld => ?_)
          refine wpAnyH_take (i := 0) (v := .pointer (some ⟨G, o, none⟩)) rfl (by kernel_rfl) (by kernel_rfl) (by kernel_rfl) (fun _ _ _ h => h) (Or.inl ⟨by rfl, fun _ _ => by go_simp⟩) hHeld ?_
          simp only [List.getElem_toArray, List.getElem_cons_zero, Act.put, List.setIfInBounds_toArray, List.set_cons_zero, List.set_cons_succ]
          refine wpAnyH_take (i := 1) (v := .pointer (some ⟨G, o, none⟩)) rfl (by kernel_rfl) (by kernel_rfl) (by kernel_rfl) (fun _ _ _ h => h) (Or.inl ⟨by rfl, fun _ _ => by go_simp⟩) hHeld ?_
          simp only [List.getElem_toArray, List.getElem_cons_zero, List.getElem_cons_succ, Act.put, List.setIfInBounds_toArray, List.set_cons_zero, List.set_cons_succ]
          refine wpAnyH_take (i := 2) (v := .pointer (some ⟨G, o + 5, none⟩)) rfl (by kernel_rfl) (by kernel_rfl) (by kernel_rfl) (fun _ _ _ h => h) (Or.inl ⟨by rfl, fun _ _ => by go_simp⟩) hHeld ?_
          simp only [List.getElem_toArray, List.getElem_cons_zero, List.getElem_cons_succ, Act.put, List.setIfInBounds_toArray, List.set_cons_zero, List.set_cons_succ]
          refine wpAnyH_take (i := 3) (v := .slice (some ⟨gt, 0, none⟩) recs.length ct) rfl (by kernel_rfl) (by kernel_rfl) (by kernel_rfl) (fun _ _ _ h => h) (Or.inl ⟨by rfl, fun _ hq => by have h5 := hq.1; clear hq; go_simp⟩) hHeld ?_
          simp only [List.getElem_toArray, List.getElem_cons_zero, List.getElem_cons_succ, Act.put, List.setIfInBounds_toArray, List.set_cons_zero, List.set_cons_succ]
          refine wpAnyH_take (i := 4) (v := .int .i64 k) rfl (by kernel_rfl) (by kernel_rfl) (by kernel_rfl) (fun _ _ _ h => h) (Or.inl ⟨by rfl, fun _ _ => by go_simp⟩) hHeld ?_
          simp only [List.getElem_toArray, List.getElem_cons_zero, List.getElem_cons_succ, Act.put, List.setIfInBounds_toArray, List.set_cons_zero, List.set_cons_succ]
          refine wpAnyH_take (i := 5) (v := .pointer (some ⟨gt, k, none⟩)) rfl (by kernel_rfl) (by kernel_rfl) (by kernel_rfl) (fun _ _ _ h => h) (Or.inl ⟨by rfl, fun _ _ => by go_simp⟩) hHeld ?_
          simp only [List.getElem_toArray, List.getElem_cons_zero, List.getElem_cons_succ, Act.put, List.setIfInBounds_toArray, List.set_cons_zero, List.set_cons_succ]
          refine wpAnyH_take (i := 6) (v := .slice (some ⟨g, 0, none⟩) n cap) rfl (by kernel_rfl) (by kernel_rfl) (by kernel_rfl) (fun _ _ _ h => h) (Or.inl ⟨by rfl, fun _ hq => by have h5 := hq.2.1; clear hq; go_simp⟩) hHeld ?_
          simp only [List.getElem_toArray, List.getElem_cons_zero, List.getElem_cons_succ, Act.put, List.setIfInBounds_toArray, List.set_cons_zero, List.set_cons_succ]
          refine wpAnyH_take (i := 7) (v := .int .i64 i) rfl (by kernel_rfl) (by kernel_rfl) (by kernel_rfl) (fun _ _ _ h => h) (Or.inl ⟨by rfl, fun _ _ => by go_simp⟩) hHeld ?_
          simp only [List.getElem_toArray, List.getElem_cons_zero, List.getElem_cons_succ, Act.put, List.setIfInBounds_toArray, List.set_cons_zero, List.set_cons_succ]
          refine wpAnyH_take (i := 8) (v := .pointer (some ⟨g, i * 32, none⟩)) rfl (by kernel_rfl) (by kernel_rfl) (by kernel_rfl) (fun _ _ _ h => h) (Or.inl ⟨by rfl, fun _ _ => by go_simp⟩) hHeld ?_
          simp only [List.getElem_toArray, List.getElem_cons_zero, List.getElem_cons_succ, Act.put, List.setIfInBounds_toArray, List.set_cons_zero, List.set_cons_succ]
          refine wpAnyH_take (i := 9) rfl (by kernel_rfl) (by kernel_rfl) (by kernel_rfl) (fun _ _ _ h => h) (yieldsIf_load_mid (by rfl) 126 _ rfl g (i * 32) rfl (bcells d) _ (fun _ hq => hq.2.2.2.1) Tryd.underlying126 rfl hmi) hHeld ?_
          simp only [List.getElem_toArray, List.getElem_cons_zero, List.getElem_cons_succ, Act.put, List.setIfInBounds_toArray, List.set_cons_zero, List.set_cons_succ]
          refine wpAnyH_take (i := 10) (v := .pointer (some ⟨G, o, none⟩)) rfl (by kernel_rfl) (by kernel_rfl) (by kernel_rfl) (fun _ _ _ h => h) (Or.inl ⟨by rfl, fun _ _ => by go_simp⟩) hHeld ?_
          simp only [List.getElem_toArray, List.getElem_cons_zero, List.getElem_cons_succ, Act.put, List.setIfInBounds_toArray, List.set_cons_zero, List.set_cons_succ]
          refine wpAnyH_take (i := 11) (v := .pointer (some ⟨G, o, none⟩)) rfl (by kernel_rfl) (by kernel_rfl) (by kernel_rfl) (fun _ _ _ h => h) (Or.inl ⟨by rfl, fun _ _ => by go_simp⟩) hHeld ?_
          simp only [List.getElem_toArray, List.getElem_cons_zero, List.getElem_cons_succ, Act.put, List.setIfInBounds_toArray, List.set_cons_zero, List.set_cons_succ]
          refine wpAnyH_take (i := 12) (v := .pointer (some ⟨G, o + 6, none⟩)) rfl (by kernel_rfl) (by kernel_rfl) (by kernel_rfl) (fun _ _ _ h => h) (Or.inl ⟨by rfl, fun _ _ => by go_simp⟩) hHeld ?_
          simp only [List.getElem_toArray, List.getElem_cons_zero, List.getElem_cons_succ, Act.put, List.setIfInBounds_toArray, List.set_cons_zero, List.set_cons_succ]
          refine wpAnyH_take (i := 13) (v := .slice (some ⟨gx, 0, none⟩) recs.length cx) rfl (by kernel_rfl) (by kernel_rfl) (by kernel_rfl) (fun _ _ _ h => h) (Or.inl ⟨by rfl, fun _ hq => by have h5 := hq.2.2.1; clear hq; go_simp⟩) hHeld ?_
          simp only [List.getElem_toArray, List.getElem_cons_zero, List.getElem_cons_succ, Act.put, List.setIfInBounds_toArray, List.set_cons_zero, List.set_cons_succ]
          refine wpAnyH_take (i := 14) (v := .int .i64 k) rfl (by kernel_rfl) (by kernel_rfl) (by kernel_rfl) (fun _ _ _ h => h) (Or.inl ⟨by rfl, fun _ _ => by go_simp⟩) hHeld ?_
          simp only [List.getElem_toArray, List.getElem_cons_zero, List.getElem_cons_succ, Act.put, List.setIfInBounds_toArray, List.set_cons_zero, List.set_cons_succ]
          refine wpAnyH_take (i := 15) (v := .pointer (some ⟨gx, k * 32, none⟩)) rfl (by kernel_rfl) (by kernel_rfl) (by kernel_rfl) (fun _ _ _ h => h) (Or.inl ⟨by rfl, fun _ _ => by go_simp⟩) hHeld ?_
          simp only [List.getElem_toArray, List.getElem_cons_zero, List.getElem_cons_succ, Act.put, List.setIfInBounds_toArray, List.set_cons_zero, List.set_cons_succ]
          refine wpAnyH_take (i := 16) rfl (by kernel_rfl) (by kernel_rfl) (by kernel_rfl) (fun _ _ _ h => h) (yieldsIf_load_mid (by rfl) 126 _ rfl gx (k * 32) rfl (bcells d) _ (fun _ hq => hq.2.2.2.2) Tryd.underlying126 rfl hmi) hHeld ?_
          simp only [List.getElem_toArray, List.getElem_cons_zero, List.getElem_cons_succ, Act.put, List.setIfInBounds_toArray, List.set_cons_zero, List.set_cons_succ]
          refine wpAnyH_take (i := 17) (v := .bool false) rfl (by kernel_rfl) (by kernel_rfl) (by kernel_rfl) (fun _ _ _ h => h) (Or.inl ⟨by rfl, fun _ _ => by go_simp⟩) hHeld ?_
          simp only [List.getElem_toArray, List.getElem_cons_zero, List.getElem_cons_succ, Act.put, List.setIfInBounds_toArray, List.set_cons_zero, List.set_cons_succ]
          refine wpAnyH_done (by kernel_rfl) ?_ _
          clear hsame hS0 hHeld e1 e2 e3 hmi
          go_wp2
          exact ⟨⟨i + 1, by omega, by go_num, grown_trans (unhide HGQ) (grown_drew (grown_refl _ _))⟩, by simp [intOf]; omega⟩
        · have hd2 : decide ((i : Int) < (n : Int)) = false := by simp; omega
          clear S hgq h3 e4 hsame hmi
          go_wp2
          exact ⟨⟨k + 1, by omega, by go_num, grown_trans (unhide HGR) (unhide HGQ)⟩, by simp [intOf]; omega⟩
    · have hke : k = recs.length := by omega
      have S := (unhide HS).later (unhide HGR)
      obtain ⟨at1, ct, hdv⟩ := S.head
      have c1 : wr.cell? ⟨G, o + 5, none⟩ = some (.slice at1 recs.length ct) := by rw [← hdv]; exact S.bk.cell1
      have hd : decide ((k : Int) < (recs.length : Int)) = false := by simp; omega
      clear S hdv
      go_wp2
      go_loopw [5] (fun v wr => ∃ k : Nat, k ≤ recp.length ∧ v = .int .i64 k ∧ w.grownBy wr none) (fun v _ => recp.length - (intOf v).toNat)
      case atStart => exact ⟨0, Nat.zero_le _, rfl, unhide HGR⟩
      case round =>
        obtain ⟨k, hk, rfl, hgr⟩ := hrel
        have HGR := hide hgr
        clear hgr
        by_cases hlt : k < recp.length
        · have hd : decide ((k : Int) < (recp.length : Int)) = true := by simp; omega
          have j1 : (k : Int) < (recp.length : Int) := by omega
          have S := (unhide HP).later (unhide HGR)
          obtain ⟨gt, ct, gx, cx, ao, n, cap, rfl, rfl, hrk1, hn1, hn2⟩ := S.look k hlt
          obtain ⟨mk, hrk⟩ : ∃ mk, recp[k] = (.slice ao n cap, mk) := ⟨recp[k].2, Prod.ext hrk1 rfl⟩
          obtain ⟨d, hd32, rfl⟩ : Mp mk := by
            have := (unhide HN recp[k] (List.getElem_mem hlt)).1
            rwa [hrk] at this
          have c1 : wr.cell? ⟨G, o + 7, none⟩ = some (.slice (some ⟨gt, 0, none⟩) recp.length ct) := S.bk.cell1
          have ctk := (S.read k hlt hrk).1
          have HRK := hide hrk
          have hmi := v_wrm false (-1) d hd32
          have hsame := fun wq => item_same false (-1) d hd32 wq
          unfold maxLen at hn2
          clear S hrk hrk1
          go_wp2
          go_loopw [6] (fun v wq => ∃ i : Nat, i ≤ n ∧ v = .int .i64 i ∧ wr.grownBy wq none) (fun v _ => n - (intOf v).toNat)
          case atStart => exact ⟨0, Nat.zero_le _, rfl, grown_refl _ _⟩
          case round =>
            obtain ⟨i, hi, rfl, hgq⟩ := hrel
            have S := ((unhide HP).later (unhide HGR)).later hgq
            have HGQ := hide hgq
            have e1 : wr.cell? ⟨G, o + 7, none⟩ = some (.slice (some ⟨gt, 0, none⟩) recp.length ct) := S.bk.cell1
            have e3 : wr.cell? ⟨G, o + 8, none⟩ = some (.slice (some ⟨gx, 0, none⟩) recp.length cx) := S.bk.cell2
            obtain ⟨e2, e4, h3⟩ := S.read k hlt (unhide HRK)
            by_cases hin : i < n
            · have hd2 : decide ((i : Int) < (n : Int)) = true := by simp; omega
              have j2 : (i : Int) < (n : Int) := by omega
              obtain ⟨g, hao, hc⟩ := h3 (by omega)
              subst hao
              have e5 := hc i hin
              have hS0 : wr.drew.cell? ⟨G, o + 7, none⟩ = some (.slice (some ⟨gt, 0, none⟩) recp.length ct) ∧ wr.drew.cell? ⟨gt, k, none⟩ = some (.slice (some ⟨g, 0, none⟩) n cap) ∧ wr.drew.cell? ⟨G, o + 8, none⟩ = some (.slice (some ⟨gx, 0, none⟩) recp.length cx) ∧ wr.drew.rangeAt g (i * 34) (ixcells false (-1) d) ∧ wr.drew.rangeAt gx (k * 34) (ixcells false (-1) d) := ⟨e1, e2, e3, e5, e4⟩
              clear hc h3 S hgq
              go_wp2
              clear e4 e5
              have hu31 := Tryd.underlying131
              refine wp_region_held_drew (S := fun w' => w'.cell? ⟨G, o + 7, none⟩ = some (.slice (some ⟨gt, 0, none⟩) recp.length ct) ∧ w'.cell? ⟨gt, k, none⟩ = some (.slice (some ⟨g, 0, none⟩) n cap) ∧ w'.cell? ⟨G, o + 8, none⟩ = some (.slice (some ⟨gx, 0, none⟩) recp.length cx) ∧ w'.rangeAt g (i * 34) (ixcells false (-1) d) ∧ w'.rangeAt gx (k * 34) (ixcells false (-1) d)) (by kernel_rfl) hS0 (fun hHeld => ?_)
              refine wpAnyH_take (i := 0) (v := .pointer (some ⟨G, o, none⟩)) rfl (by kernel_rfl) (by kernel_rfl) (by kernel_rfl) (fun _ _ _ h => h) (Or.inl ⟨by rfl, fun _ _ => by go_simp⟩) hHeld ?_
              simp only [List.getElem_toArray, List.getElem_cons_zero, Act.put, List.setIfInBounds_toArray, List.set_cons_zero, List.set_cons_succ]
              refine wpAnyH_take (i := 1) (v := .pointer (some ⟨G, o, none⟩)) rfl (by kernel_rfl) (by kernel_rfl) (by kernel_rfl) (fun _ _ _ h => h) (Or.inl ⟨by rfl, fun _ _ => by go_simp⟩) hHeld ?_
              simp only [List.getElem_toArray, List.getElem_cons_zero, List.getElem_cons_succ, Act.put, List.setIfInBounds_toArray, List.set_cons_zero, List.set_cons_succ]
              refine wpAnyH_take (i := 2) (v := .pointer (some ⟨G, o + 7, none⟩)) rfl (by kernel_rfl) (by kernel_rfl) (by kernel_rfl) (fun _ _ _ h => h) (Or.inl ⟨by rfl, fun _ _ => by go_simp⟩) hHeld ?_
              simp only [List.getElem_toArray, List.getElem_cons_zero, List.getElem_cons_succ, Act.put, List.setIfInBounds_toArray, List.set_cons_zero, List.set_cons_succ]
              refine wpAnyH_take (i := 3) (v := .slice (some ⟨gt, 0, none⟩) recp.length ct) rfl (by kernel_rfl) (by kernel_rfl) (by kernel_rfl) (fun _ _ _ h => h) (Or.inl ⟨by rfl, fun _ hq => by have h5 := hq.1; clear hq; go_simp⟩) hHeld ?_
              simp only [List.getElem_toArray, List.getElem_cons_zero, List.getElem_cons_succ, Act.put, List.setIfInBounds_toArray, List.set_cons_zero, List.set_cons_succ]
              refine wpAnyH_take (i := 4) (v := .int .i64 k) rfl (by kernel_rfl) (by kernel_rfl) (by kernel_rfl) (fun _ _ _ h => h) (Or.inl ⟨by rfl, fun _ _ => by go_simp⟩) hHeld ?_
              simp only [List.getElem_toArray, List.getElem_cons_zero, List.getElem_cons_succ, Act.put, List.setIfInBounds_toArray, List.set_cons_zero, List.set_cons_succ]
              refine wpAnyH_take (i := 5) (v := .pointer (some ⟨gt, k, none⟩)) rfl (by kernel_rfl) (by kernel_rfl) (by kernel_rfl) (fun _ _ _ h => h) (Or.inl ⟨by rfl, fun _ _ => by go_simp⟩) hHeld ?_
              simp only [List.getElem_toArray, List.getElem_cons_zero, List.getElem_cons_succ, Act.put, List.setIfInBounds_toArray, List.set_cons_zero, List.set_cons_succ]
              refine wpAnyH_take (i := 6) (v := .slice (some ⟨g, 0, none⟩) n cap) rfl (by kernel_rfl) (by kernel_rfl) (by kernel_rfl) (fun _ _ _ h => h) (Or.inl ⟨by rfl, fun _ hq => by have h5 := hq.2.1; clear hq; go_simp⟩) hHeld ?_
              simp only [List.getElem_toArray, List.getElem_cons_zero, List.getElem_cons_succ, Act.put, List.setIfInBounds_toArray, List.set_cons_zero, List.set_cons_succ]
              refine wpAnyH_take (i := 7) (v := .int .i64 i) rfl (by kernel_rfl) (by kernel_rfl) (by kernel_rfl) (fun _ _ _ h => h) (Or.inl ⟨by rfl, fun _ _ => by go_simp⟩) hHeld ?_
              simp only [List.getElem_toArray, List.getElem_cons_zero, List.getElem_cons_succ, Act.put, List.setIfInBounds_toArray, List.set_cons_zero, List.set_cons_succ]
              refine wpAnyH_take (i := 8) (v := .pointer (some ⟨g, i * 34, none⟩)) rfl (by kernel_rfl) (by kernel_rfl) (by kernel_rfl) (fun _ _ _ h => h) (Or.inl ⟨by rfl, fun _ _ => by go_simp⟩) hHeld ?_
              simp only [List.getElem_toArray, List.getElem_cons_zero, List.getElem_cons_succ, Act.put, List.setIfInBounds_toArray, List.set_cons_zero, List.set_cons_succ]
              refine wpAnyH_take (i := 9) rfl (by kernel_rfl) (by kernel_rfl) (by kernel_rfl) (fun _ _ _ h => h) (yieldsIf_load_mid (by rfl) 131 _ rfl g (i * 34) rfl (ixcells false (-1) d) _ (fun _ hq => hq.2.2.2.1) Tryd.underlying131 rfl hmi) hHeld ?_
              simp only [List.getElem_toArray, List.getElem_cons_zero, List.getElem_cons_succ, Act.put, List.setIfInBounds_toArray, List.set_cons_zero, List.set_cons_succ]
              refine wpAnyH_take (i := 10) (v := .pointer (some ⟨G, o, none⟩)) rfl (by kernel_rfl) (by kernel_rfl) (by kernel_rfl) (fun _ _ _ h => h) (Or.inl ⟨by rfl, fun _ _ => by go_simp⟩) hHeld ?_
              simp only [List.getElem_toArray, List.getElem_cons_zero, List.getElem_cons_succ, Act.put, List.setIfInBounds_toArray, List.set_cons_zero, List.set_cons_succ]
              refine wpAnyH_take (i := 11) (v := .pointer (some ⟨G, o, none⟩)) rfl (by kernel_rfl) (by kernel_rfl) (by kernel_rfl) (fun _ _ _ h => h) (Or.inl ⟨by rfl, fun _ _ => by go_simp⟩) hHeld ?_
              simp only [List.getElem_toArray, List.getElem_cons_zero, List.getElem_cons_succ, Act.put, List.setIfInBounds_toArray, List.set_cons_zero, List.set_cons_succ]
              refine wpAnyH_take (i := 12) (v := .pointer (some ⟨G, o + 8, none⟩)) rfl (by kernel_rfl) (by kernel_rfl) (by kernel_rfl) (fun _ _ _ h => h) (Or.inl ⟨by rfl, fun _ _ => by go_simp⟩) hHeld ?_
              simp only [List.getElem_toArray, List.getElem_cons_zero, List.getElem_cons_succ, Act.put, List.setIfInBounds_toArray, List.set_cons_zero, List.set_cons_succ]
              refine wpAnyH_take (i := 13) (v := .slice (some ⟨gx, 0, none⟩) recp.length cx) rfl (by kernel_rfl) (by kernel_rfl) (by kernel_rfl) (fun _ _ _ h => h) (Or.inl ⟨by rfl, fun _ hq => by have h5 := hq.2.2.1; clear hq; go_simp⟩) hHeld ?_
              simp only [List.getElem_toArray, List.getElem_cons_zero, List.getElem_cons_succ, Act.put, List.setIfInBounds_toArray, List.set_cons_zero, List.set_cons_succ]
              refine wpAnyH_take (i := 14) (v := .int .i64 k) rfl (by kernel_rfl) (by kernel_rfl) (by kernel_rfl) (fun _ _ _ h => h) (Or.inl ⟨by rfl, fun _ _ => by go_simp⟩) hHeld ?_
              simp only [List.getElem_toArray, List.getElem_cons_zero, List.getElem_cons_succ, Act.put, List.setIfInBounds_toArray, List.set_cons_zero, List.set_cons_succ]
              refine wpAnyH_take (i := 15) (v := .pointer (some ⟨gx, k * 34, none⟩)) rfl (by kernel_rfl) (by kernel_rfl) (by kernel_rfl) (fun _ _ _ h => h) (Or.inl ⟨by rfl, fun _ _ => by go_simp⟩) hHeld ?_
              simp only [List.getElem_toArray, List.getElem_cons_zero, List.getElem_cons_succ, Act.put, List.setIfInBounds_toArray, List.set_cons_zero, List.set_cons_succ]
              refine wpAnyH_take (i := 16) rfl (by kernel_rfl) (by kernel_rfl) (by kernel_rfl) (fun _ _ _ h => h) (yieldsIf_load_mid (by rfl) 131 _ rfl gx (k * 34) rfl (ixcells false (-1) d) _ (fun _ hq => hq.2.2.2.2) Tryd.underlying131 rfl hmi) hHeld ?_
              simp only [List.getElem_toArray, List.getElem_cons_zero, List.getElem_cons_succ, Act.put, List.setIfInBounds_toArray, List.set_cons_zero, List.set_cons_succ]
              refine wpAnyH_take (i := 17) (v := .bool false) rfl (by kernel_rfl) (by kernel_rfl) (by kernel_rfl) (fun _ _ _ h => h) (Or.inl ⟨by rfl, fun _ _ => by go_simp⟩) hHeld ?_
              simp only [List.getElem_toArray, List.getElem_cons_zero, List.getElem_cons_succ, Act.put, List.setIfInBounds_toArray, List.set_cons_zero, List.set_cons_succ]
              refine wpAnyH_done (by kernel_rfl) ?_ _
              clear hsame hS0 hHeld e1 e2 e3 hmi
              go_wp2
              exact ⟨⟨i + 1, by omega, by go_num, grown_trans (unhide HGQ) (grown_drew (grown_refl _ _))⟩, by simp [intOf]; omega⟩
            · have hd2 : decide ((i : Int) < (n : Int)) = false := by simp; omega
              clear S hgq h3 e4 hsame hmi
              go_wp2
              exact ⟨⟨k + 1, by omega, by go_num, grown_trans (unhide HGR) (unhide HGQ)⟩, by simp [intOf]; omega⟩
        · have hke : k = recp.length := by omega
          have S := (unhide HP).later (unhide HGR)
          obtain ⟨at1, ct, hdv⟩ := S.head
          have c1 : wr.cell? ⟨G, o + 7, none⟩ = some (.slice at1 recp.length ct) := by rw [← hdv]; exact S.bk.cell1
          have hd : decide ((k : Int) < (recp.length : Int)) = false := by simp; omega
          clear S hdv
          go_wp2
          go_ret
          exact ⟨rfl, bel_of_grown (unhide HGR)⟩
end Go.Proofs.YtanfolfopalbeaaDoor
