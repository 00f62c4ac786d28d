import Derived.Test.YtanfolfopalbeabDoorRefTimes
namespace Go.Proofs.YtanfolfopalbeabDoor
open Go.RowKit

/-- The greatest x whose power is not above P, bit by bit: so many bits are left. -/
def rtl (pw P : Nat) : Nat → Nat → Nat
  | 0, x => x
  | b + 1, x => rtl pw P b (if P < (x + 2 ^ b) ^ pw then x else x + 2 ^ b)
def rt (p pw : Nat) : Nat := rtl pw (p * 65536 ^ (2 * pw)) 41 0 % 4294967296
/-- The digits of p times a power of two. -/
def wantL (p pw : Nat) : List Nat := (List.replicate 8 0).set (2 * pw) p
theorem want_val (p pw : Nat) (h : pw ≤ 3) : val (wantL p pw) = p * 65536 ^ (2 * pw) := by
  have := val_set (List.replicate 8 0) (2 * pw) p (by rw [List.length_replicate]; omega)
  rw [val_zeros] at this
  have h0 : (List.replicate 8 0).getD (2 * pw) 0 = 0 := by
    rw [List.getD]
    cases hc : (List.replicate 8 0)[2 * pw]? with
    | none => rfl
    | some x => exact (List.mem_replicate.1 (List.mem_of_getElem? hc)).2
  rw [h0, Nat.mul_zero, Nat.add_zero, Nat.zero_add] at this
  unfold wantL
  rw [this, Nat.mul_comm]
theorem want_lt (p pw : Nat) (hp : p < 65536) : ∀ x ∈ wantL p pw, x < 65536 := by
  intro x hx
  rcases List.mem_or_eq_of_mem_set hx with h | h
  · rw [(List.mem_replicate.1 h).2]; decide
  · omega
theorem want_length (p pw : Nat) : (wantL p pw).length = 8 := by simp [wantL]
theorem limb_length (n : Nat) : (limb n).length = 3 := rfl

set_option maxRecDepth 100000 in
set_option maxHeartbeats 1600000 in
theorem rooted_any (p pw : Nat) (w : World) (hp : p < 512) (hpw : 1 ≤ pw ∧ pw ≤ 3) :
    Calls Tryd.prog 22 #[.int .i64 p, .int .i64 pw] w fun e w' => e = .returned (.int .u64 (rt p pw)) ∧ Below w.heap.size w w' := by
  obtain ⟨i0, hi, hz0, hz1, hz2⟩ := info_parts info_int
  obtain ⟨hpw1, hpw2⟩ := hpw
  have e0 : (2 : Int) * (pw : Int) = ((2 * pw : Nat) : Int) := by simp
  have HWV := hide (want_val p pw hpw2)
  have HWL := hide (want_lt p pw (by omega))
  have HWN := hide (want_length p pw)
  have HWS := hide (show wantL p pw = (List.replicate 8 0).set (2 * pw) p from rfl)
  have HRT := hide (show rt p pw = rtl pw (p * 65536 ^ (2 * pw)) 41 0 % 4294967296 from rfl)
  have hq8 : 2 * pw < 8 := by omega
  generalize hqe : 2 * pw = q at *
  clear hqe
  generalize p * 65536 ^ q = P at *
  generalize wantL p pw = wl at *
  have j1 : (q : Int) < 8 := by omega
  go_enter Tryd.func22, Tryd.ntmps22
  go_wp2_with (at_make; go_must (refine wpList_make_full _ rfl _ _ 85 rfl w.heap.size 3 i0 (.int .i64 0) 1 Tryd.underlying85 hi hz0 hz1 _ _ _ _ 8 rfl rfl (by omega) (by omega) (by rw [hz2]; omega) (by unfold maxLen; omega) (Nat.le_refl _) ?_))
  intro w1 hown1 hgrow1
  have hbel1 : Below w.heap.size w w1 := (Below.refl _ _).grown hgrow1 (Nat.le_refl _) (fun k h => by cases h)
  have hblk1 : IBlk w1 w.heap.size (List.replicate 8 0) := by
    have := own_full hown1
    rw [made_zeros] at this
    exact this
  clear hown1 hgrow1
  have cq := hblk1.cell q (by rw [List.length_replicate]; exact hq8)
  have fq := hblk1.free q
  have HB1 := hide hblk1
  have HL1 := hide hbel1
  clear hblk1 hbel1
  go_wp2
  have hwant : IBlk (w1.setCell ⟨w.heap.size, q, none⟩ (.int .i64 (p : Int))) w.heap.size wl := by
    rw [unhide HWS]
    exact (unhide HB1).set q p
  have hbel : Below w.heap.size w (w1.setCell ⟨w.heap.size, q, none⟩ (.int .i64 (p : Int))) := (unhide HL1).setCell (by exact Nat.le_refl _) _
  generalize (w1.setCell ⟨w.heap.size, q, none⟩ (.int .i64 (p : Int))) = w2 at hwant hbel ⊢
  have hI := hwant.ints (unhide HWN) (by unfold maxLen; omega)
  clear cq fq HB1 HL1 hwant
  go_loopw [6, 7] (fun tx tb wr => ∃ b x : Nat, b ≤ 41 ∧ x + 2 ^ b ≤ 2199023255552 ∧ tx = .int .i64 x ∧ tb = .int .i64 ((2 ^ b / 2 : Nat) : Int) ∧ Hid (rtl pw P 41 0 = rtl pw P b x) ∧ Ints wr (.slice (some ⟨w.heap.size, 0, none⟩) 8 8) wl ∧ Below w.heap.size w wr) (fun _ tb _ => (intOf tb).toNat)
  case atStart => exact ⟨41, 0, by omega, by decide, rfl, rfl, hide rfl, hI, hbel⟩
  case round =>
    obtain ⟨b, x, hb, hx, rfl, rfl, HR, hI, hbel⟩ := hrel
    cases b with
    | zero =>
      have hd : decide ((0 : Int) < ((2 ^ 0 / 2 : Nat) : Int)) = false := rfl
      have HR2 := hide (show rt p pw = x % 4294967296 by rw [unhide HRT, unhide HR]; rfl)
      clear HRT HR
      have ev : (2 ^ 0 / 2 : Nat) = 0 := rfl
      rw [ev]
      go_wp2
      go_ret
      refine ⟨?_, hbel⟩
      rw [unhide HR2]
      exact ret_int (by omega)
    | succ b =>
      have ev : (2 ^ (b + 1) / 2 : Nat) = 2 ^ b := by rw [Nat.pow_succ]; omega
      rw [ev]
      have h2b : 0 < 2 ^ b := Nat.pos_of_ne_zero (by simp)
      rw [Nat.pow_succ] at hx
      have HST := hide (show rtl pw P (b + 1) x = rtl pw P b (if P < (x + 2 ^ b) ^ pw then x else x + 2 ^ b) from rfl)
      have HHALF := hide (show ∀ y, y = 2 ^ b → y / 2 = 2 ^ b / 2 from fun y h => by rw [h])
      generalize hbe : 2 ^ b = bit at *
      have hd : decide ((0 : Int) < (bit : Int)) = true := by simp; omega
      have e1 : (x : Int) + (bit : Int) = ((x + bit : Nat) : Int) := by simp
      generalize hXe : x + bit = X at *
      have hX : X < 281474976710656 := by omega
      have HXE := hide hXe
      have HBE := hide hbe
      clear hXe hbe
      go_wp2_with (go_at_call 42; refine (limbs_any X _ hX).mono ?_; rintro e wa ⟨lv, rfl, hL, hbl⟩)
      have hI2 := hI.below hbl (Nat.le_refl _)
      have hbel2 := hbel.trans (hbl.mono hbel.size)
      have HLV := hide (limb_val X)
      have HLT := hide (limb_lt X hX)
      clear hI hbel hbl
      go_loopw [9, 10] (fun nv tk wr => ∃ (k : Nat) (c : List Nat), 1 ≤ k ∧ k ≤ pw ∧ tk = .int .i64 k ∧ Ints wr nv c ∧ c.length = 3 * k ∧ Hid (∀ d ∈ c, d < 65536) ∧ Hid (val c = X ^ k) ∧ Ints wr lv (limb X) ∧ Ints wr (.slice (some ⟨w.heap.size, 0, none⟩) 8 8) wl ∧ Below w.heap.size w wr) (fun _ tk _ => pw - (intOf tk).toNat)
      case atStart => exact ⟨1, limb X, Nat.le_refl _, hpw1, rfl, hL, rfl, HLT, hide (by rw [unhide HLV, Nat.pow_one]), hL, hI2, hbel2⟩
      case round =>
        clear hL hI2 hbel2
        obtain ⟨k, c, hk1, hk2, rfl, hN, hcl, HCD, HCV, hL, hI, hbel⟩ := hrel
        by_cases hlt : k < pw
        · have hd2 : decide ((k : Int) < (pw : Int)) = true := by simp; omega
          have hti := times_any _ _ c (limb X) _ hN hL (unhide HCD) (unhide HLT) (by omega) (by rw [limb_length]; omega)
          have HI := hide hI
          have HL := hide hL
          have HBEL := hide hbel
          clear hI hL hbel hN
          go_wp2_with (go_at_call 43; refine hti.mono ?_; rintro e wb ⟨nv2, c2, rfl, hN2, hcl2, hcd2, hcv2, hbb⟩)
          refine ⟨⟨k + 1, c2, by omega, by omega, by go_num, hN2, by rw [hcl2, limb_length]; omega, hide hcd2, hide (by rw [hcv2, unhide HCV, unhide HLV, Nat.pow_succ]), (unhide HL).below hbb (Nat.le_refl _), (unhide HI).below hbb (Nat.le_refl _), (unhide HBEL).trans (hbb.mono (unhide HBEL).size)⟩, by simp [intOf]; omega⟩
        · have hd2 : decide ((k : Int) < (pw : Int)) = false := by simp; omega
          have hkp : k = pw := by omega
          have hab := above_any _ _ c wl _ hN hI (unhide HCD) (unhide HWL) (by omega) (by rw [unhide HWN]; omega)
          rw [unhide HWV, unhide HCV, hkp] at hab
          have HI := hide hI
          have HBEL := hide hbel
          clear hI hL hbel hN
          by_cases hov : P < X ^ pw
          · rw [decide_eq_true hov] at hab
            have HST2 := hide (show rtl pw P (b + 1) x = rtl pw P b x by rw [unhide HST, if_pos hov])
            clear hov
            go_wp2_with (go_at_call 44; refine hab.mono ?_; rintro e wb ⟨rfl, he⟩; cases he)
            exact ⟨⟨b, x, by omega, by rw [unhide HBE]; omega, rfl, by rw [unhide HBE]; exact congrArg (Value.int .i64) (by omega), hide ((unhide HR).trans (unhide HST2)), unhide HI, unhide HBEL⟩, by simp [intOf]; omega⟩
          · rw [decide_eq_false hov] at hab
            have HST2 := hide (show rtl pw P (b + 1) x = rtl pw P b X by rw [unhide HST, if_neg hov])
            clear hov
            go_wp2_with (go_at_call 44; refine hab.mono ?_; rintro e wb ⟨rfl, he⟩; cases he)
            exact ⟨⟨b, X, by omega, by rw [unhide HBE]; have := unhide HXE; omega, rfl, by rw [unhide HBE]; exact congrArg (Value.int .i64) (by omega), hide ((unhide HR).trans (unhide HST2)), unhide HI, unhide HBEL⟩, by simp [intOf]; omega⟩

/-- The primes of the numbers from n on, so many. -/
def cnt : Nat → Nat → Nat
  | 0, _ => 0
  | f + 1, n => (if prm n then 1 else 0) + cnt f (n + 1)
theorem cnt_pos : ∀ f n, n + (f + 1) = 312 → 1 ≤ cnt (f + 1) n := by
  intro f
  induction f with
  | zero =>
    intro n h
    obtain rfl : n = 311 := by omega
    have : prm 311 = true := by decide +kernel
    simp [cnt, this]
  | succ f ih =>
    intro n h
    have := ih (n + 1) (by omega)
    show 1 ≤ (if prm n then 1 else 0) + cnt (f + 1) (n + 1)
    omega
/-- The tables behind one prime more. -/
def lay1 (t : List Nat) (k n : Nat) : List Nat := if k < 8 then (t.set (8 + k) (rt n 3)).set k (rt n 2) else t.set (8 + k) (rt n 3)
theorem lay1_length (t : List Nat) (k n : Nat) : (lay1 t k n).length = t.length := by
  unfold lay1
  split <;> simp
/-- The tables behind so many numbers from n on. -/
def gfw : Nat → Nat → Nat → List Nat → List Nat
  | 0, _, _, t => t
  | f + 1, n, k, t => if prm n then gfw f (n + 1) (k + 1) (lay1 t k n) else gfw f (n + 1) k t
def z72 : List Nat := List.replicate 72 0
theorem cnt_all : cnt 310 2 = 64 := by decide +kernel
theorem gfw_all : gfw 310 2 0 z72 = Hl ++ Kl := by decide +kernel
end Go.Proofs.YtanfolfopalbeabDoor
