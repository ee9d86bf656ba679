/-
  Stage 7: limb's subtract, length, bitLength, multiplyAdd.
-/
import Derived.Test.YtgoemhcngmpfbaaGreatDoorMw02
import Derived.Deep.CutBlock

namespace Go.Proofs.YtgoemhcngmpfbaaGreatDoor
open Go.RowKit Go.Sort

theorem bor_step {x y c m c' : Nat} (h : m + y + c = x + 18446744073709551616 * c') (hm : m < 18446744073709551616) (hc' : c' ≤ 1) :
    (x + 18446744073709551616 - y - c) % 18446744073709551616 = m ∧ bor x y c = c' := by
  unfold bor
  constructor
  · omega
  · split <;> omega
/-- What a difference's borrow into place i is. -/
def bw (a b i : Nat) : Nat := brw 18446744073709551616 a b i
theorem bw_step {a b i : Nat} (h : b ≤ a) (hi : i < 8) : (wd a i + 18446744073709551616 - wd b i - bw a b i) % 18446744073709551616 = wd (a - b) i ∧ bor (wd a i) (wd b i) (bw a b i) = bw a b (i + 1) :=
  bor_step (sub_step (B := 18446744073709551616) (m := a - b) (q := 0) (k := 8) (by decide) (by omega) hi) (wd_lt _ _) (brw_le _ _ _ _)
theorem WordsF.eight {w : World} {b : Nat} {f : Nat → Nat} (h : WordsF w b 0 f 8) :
    (w.cell? ⟨b, 0, none⟩ = some (.int .u64 (f 0 : Int)) ∧ w.frozen? ⟨b, 0, none⟩ = false) ∧ (w.cell? ⟨b, 1, none⟩ = some (.int .u64 (f 1 : Int)) ∧ w.frozen? ⟨b, 1, none⟩ = false) ∧
    (w.cell? ⟨b, 2, none⟩ = some (.int .u64 (f 2 : Int)) ∧ w.frozen? ⟨b, 2, none⟩ = false) ∧ (w.cell? ⟨b, 3, none⟩ = some (.int .u64 (f 3 : Int)) ∧ w.frozen? ⟨b, 3, none⟩ = false) ∧
    (w.cell? ⟨b, 4, none⟩ = some (.int .u64 (f 4 : Int)) ∧ w.frozen? ⟨b, 4, none⟩ = false) ∧ (w.cell? ⟨b, 5, none⟩ = some (.int .u64 (f 5 : Int)) ∧ w.frozen? ⟨b, 5, none⟩ = false) ∧
    (w.cell? ⟨b, 6, none⟩ = some (.int .u64 (f 6 : Int)) ∧ w.frozen? ⟨b, 6, none⟩ = false) ∧ (w.cell? ⟨b, 7, none⟩ = some (.int .u64 (f 7 : Int)) ∧ w.frozen? ⟨b, 7, none⟩ = false) := by
  have c0 := h 0 (by decide)
  have c1 := h 1 (by decide)
  have c2 := h 2 (by decide)
  have c3 := h 3 (by decide)
  have c4 := h 4 (by decide)
  have c5 := h 5 (by decide)
  have c6 := h 6 (by decide)
  have c7 := h 7 (by decide)
  simp only [Nat.zero_add] at c0 c1 c2 c3 c4 c5 c6 c7
  exact ⟨c0, c1, c2, c3, c4, c5, c6, c7⟩
set_option maxRecDepth 100000 in
set_option maxHeartbeats 4000000 in
theorem subtract_run (a b : Nat) (w : World) (hab : Hid (b ≤ a)) :
    Calls Tryz.prog 155 #[wordsV a, wordsV b] w fun e w' => e = .returned (wordsV (a - b)) ∧ Below w.heap.size w w' := by
  have h2 : w.heap.size ≤ w.heap.size + 1 + 1 := by omega
  have T := Lib.hid (three_boxes w a b 119 119 119)
  unfold wordsV
  go_enter Tryz.func155, Tryz.ntmps155
  go_wp2_with fail
  go_loopg [5, 7] 10 (fun h s5 s7 wr => ∃ (i c : Nat) (f : Nat → Nat), s5 = .int .u64 (c : Int) ∧ s7 = .int .i64 (i : Int) ∧ Hid (i ≤ 8 ∧ 9 ≤ i + h) ∧ Hid (c = bw a b i) ∧ Hid (WordsAt wr w.heap.size 0 a 8) ∧ Hid (WordsAt wr (w.heap.size + 1) 0 b 8) ∧ Hid (WordsF wr (w.heap.size + 1 + 1) 0 f 8) ∧ Hid (∀ j, j < i → f j = wd (a - b) j) ∧ Hid (Below w.heap.size w wr))
  case atStart => exact ⟨0, 0, wd 0, rfl, rfl, by show _ ∧ _; omega, (brw_zero _ a b).symm, T.out.1, T.out.2.1, T.out.2.2.1, fun j hj => absurd hj (by omega), T.out.2.2.2⟩
  case round =>
    clear T
    obtain ⟨i, c, f, rfl, rfl, HI, HC, HA, HB, HF, HE, HW⟩ := hrel
    by_cases hlt : i < 8
    · have hltz : (i : Int) < 8 := by omega
      obtain ⟨x, hx⟩ : ∃ x, wd a i = x := ⟨_, rfl⟩
      obtain ⟨y, hy⟩ : ∃ y, wd b i = y := ⟨_, rfl⟩
      have ca := (HA.out i hlt).1
      have cb := (HB.out i hlt).1
      have cf := HF.out i hlt
      rw [Nat.zero_add] at ca cb cf
      rw [hx] at ca
      rw [hy] at cb
      obtain ⟨cf1, cf2⟩ := cf
      obtain ⟨s, hs⟩ : ∃ s, (x + 18446744073709551616 - y - c) % 18446744073709551616 = s := ⟨_, rfl⟩
      obtain ⟨d, hd⟩ : ∃ d, bor x y c = d := ⟨_, rfl⟩
      have hsub := sub64_run x y c (HC.out ▸ brw_le _ a b i)
      rw [hs, hd] at hsub
      have hst := bw_step hab.out hlt
      rw [hx, hy, ← HC.out] at hst
      have HS : Hid (s = wd (a - b) i) := hs.symm.trans hst.1
      have HD : Hid (d = bw a b (i + 1)) := hd.symm.trans hst.2
      clear hs hd hx hy hst
      go_wp2_with fail
      go_region
      go_wp2_with fail
      go_roundg (8 - i)
      case measure => have := HI.out; omega
      case rel =>
        have hF := HF.out.upd hlt s
        rw [Nat.zero_add] at hF
        refine ⟨i + 1, d, updF f i s, rfl, by go_num, by show _ ∧ _; have := HI.out; omega, HD, HA.out.set ⟨w.heap.size + 1 + 1, i, none⟩ _ (by show w.heap.size + 1 + 1 ≠ w.heap.size; omega), HB.out.set ⟨w.heap.size + 1 + 1, i, none⟩ _ (by show w.heap.size + 1 + 1 ≠ w.heap.size + 1; omega), hF, fun j hj => ?_, (HW.out.setCell (p := ⟨w.heap.size + 1 + 1, _, none⟩) h2 _).drew⟩
        by_cases e : j = i
        · rw [e, updF_same]; exact HS.out
        · rw [updF_other e]; exact HE.out j (by omega)
    · obtain rfl : i = 8 := by have := HI.out; omega
      obtain ⟨⟨c0, d0⟩, ⟨c1, d1⟩, ⟨c2, d2⟩, ⟨c3, d3⟩, ⟨c4, d4⟩, ⟨c5, d5⟩, ⟨c6, d6⟩, ⟨c7, d7⟩⟩ := (HF.out.ext HE.out).eight
      clear HA HB HF HE HC
      go_wp2_with fail
      refine bodyPost_ret (v := wordsV (a - b)) (by rw [results_cell1 rfl]; go_simp; try rfl) rfl ⟨rfl, ?_⟩
      exact ((((((((HW.out.setCell (p := ⟨w.heap.size + 1 + 1, _, none⟩) h2 _).setCell (p := ⟨w.heap.size + 1 + 1, _, none⟩) h2 _).setCell (p := ⟨w.heap.size + 1 + 1, _, none⟩) h2 _).setCell (p := ⟨w.heap.size + 1 + 1, _, none⟩) h2 _).setCell (p := ⟨w.heap.size + 1 + 1, _, none⟩) h2 _).setCell (p := ⟨w.heap.size + 1 + 1, _, none⟩) h2 _).setCell (p := ⟨w.heap.size + 1 + 1, _, none⟩) h2 _).setCell (p := ⟨w.heap.size + 1 + 1, _, none⟩) h2 _)
theorem box_at (w : World) (a : Nat) (T : TypeId) : WordsAt (w.alloc (boxO a T)) w.heap.size 0 a 8 ∧ Below w.heap.size w (w.alloc (boxO a T)) := ⟨WordsAt.new w a T, below_alloc w _⟩
/-- Of how many words n is. -/
def wl (n : Nat) : Nat := nlen 18446744073709551616 n
theorem wl_le {n : Nat} (h : Fits n) : wl n ≤ 8 := nlen_le_of_lt (by decide) h
theorem low_zero {n j : Nat} (h : n < 18446744073709551616 ^ (j + 1)) (hz : wd n j = 0) : n < 18446744073709551616 ^ j := by
  rcases Nat.lt_or_ge n (18446744073709551616 ^ j) with h1 | h1
  · exact h1
  · have hP : 0 < 18446744073709551616 ^ j := Nat.pow_pos (by decide)
    have h2 : n / 18446744073709551616 ^ j < 18446744073709551616 := (Nat.div_lt_iff_lt_mul hP).2 (by rw [Nat.pow_succ, Nat.mul_comm] at h; exact h)
    have h3 : n / 18446744073709551616 ^ j = 0 := by
      have : n / 18446744073709551616 ^ j % 18446744073709551616 = 0 := hz
      rwa [Nat.mod_eq_of_lt h2] at this
    have := Nat.div_pos h1 hP
    omega
theorem wl_here {n j : Nat} (h : n < 18446744073709551616 ^ (j + 1)) (hz : wd n j ≠ 0) : wl n = j + 1 := by
  apply nlen_uniq (by decide) h
  intro _
  rcases Nat.lt_or_ge n (18446744073709551616 ^ j) with h1 | h1
  · exact absurd (dig_high h1) hz
  · exact h1
set_option maxRecDepth 100000 in
set_option maxHeartbeats 4000000 in
theorem length_run (a : Nat) (w : World) (ha : Hid (Fits a)) :
    Calls Tryz.prog 119 #[wordsV a] w fun e w' => e = .returned (.int .i64 (wl a : Int)) ∧ Below w.heap.size w w' := by
  have T := Lib.hid (box_at w a 119)
  obtain ⟨L, hL⟩ : ∃ L, wl a = L := ⟨_, rfl⟩
  have HL := Lib.hid hL
  rw [hL]
  clear hL
  unfold wordsV
  go_enter Tryz.func119, Tryz.ntmps119
  go_wp2_with fail
  go_loopg [3] 10 (fun h s3 wr => ∃ (j : Nat), s3 = .int .i64 (j : Int) ∧ Hid (j ≤ 8 ∧ j < h) ∧ Hid (a < 18446744073709551616 ^ j) ∧ Hid (WordsAt wr w.heap.size 0 a 8) ∧ Hid (Below w.heap.size w wr))
  case atStart => exact ⟨8, rfl, by show _ ∧ _; omega, ha.out, T.out.1, T.out.2⟩
  case round =>
    clear T
    obtain ⟨j, rfl, HJ, HN, HA, HW⟩ := hrel
    cases j with
    | zero =>
      have HV : Hid ((0 : Int) = (L : Int)) := by
        have h0 : a = 0 := by have := HN.out; rw [Nat.pow_zero] at this; omega
        show _ = _
        rw [← HL.out, h0, wl, nlen_zero]
        rfl
      go_wp2_with fail
      go_ret
      exact ⟨ret_int HV.out, HW.out⟩
    | succ i =>
      have hi8 : i < 8 := by have := HJ.out; omega
      have hz : (i : Int) < 8 := by omega
      have hp : (0 : Int) < (i : Int) + 1 := by omega
      have hp2 : (0 : Int) < ((i + 1 : Nat) : Int) := by omega
      have hw1 : IntKind.i64.wrap (((i + 1 : Nat) : Int) - 1) = (i : Int) := by rw [IntKind.wrap_i64]; omega
      have ca := (HA.out i hi8).1
      rw [Nat.zero_add] at ca
      obtain ⟨x, hx⟩ : ∃ x, wd a i = x := ⟨_, rfl⟩
      rw [hx] at ca
      have HX := Lib.hid hx
      clear hx
      by_cases hd : x = 0
      · subst hd
        have HN2 : Hid (a < 18446744073709551616 ^ i) := low_zero HN.out HX.out
        go_wp2_with fail
        go_roundg (i + 1)
        case measure => have := HJ.out; omega
        case rel => exact ⟨i, by go_num, by show _ ∧ _; have := HJ.out; omega, HN2, HA, HW⟩
      · have hdz : ((x : Int) == 0) = false := by simpa using hd
        have HV : Hid (((i + 1 : Nat) : Int) = (L : Int)) := by
          have := wl_here HN.out (by rw [HX.out]; exact hd)
          rw [HL.out] at this
          show _ = _
          omega
        go_wp2_with fail
        go_ret
        exact ⟨ret_int HV.out, HW.out⟩
theorem bitLen_eq (x f : Nat) (h : x < 2 ^ f) : Lib.bitLenAux f x = nlen 2 x := by
  induction f generalizing x with
  | zero => simp at h; subst h; rw [nlen_zero]; rfl
  | succ f ih =>
    show (if x = 0 then 0 else 1 + Lib.bitLenAux f (x / 2)) = _
    by_cases hx : x = 0
    · rw [if_pos hx, hx, nlen_zero]
    · rw [if_neg hx, ih (x / 2) (by rw [Nat.pow_succ] at h; omega), nlen_pos (by decide) hx]
      omega
theorem nlen2_shift (s n : Nat) (h : n / 2 ^ s ≠ 0) : nlen 2 n = s + nlen 2 (n / 2 ^ s) := by
  induction s generalizing n with
  | zero => simp
  | succ s ih =>
    rw [Nat.pow_succ, Nat.mul_comm, ← Nat.div_div_eq_div_mul] at h ⊢
    have hn : n ≠ 0 := fun e => by subst e; simp at h
    rw [nlen_pos (by decide) hn, ih (n / 2) h]
    omega
theorem bits_words {n k : Nat} (h : wl n = k + 1) : nlen 2 n = k * 64 + Lib.bitLen (wd n k) := by
  have hn : n ≠ 0 := fun e => by subst e; rw [wl, nlen_zero] at h; omega
  have ht := dig_top (B := 18446744073709551616) (by decide) hn
  have hk : nlen 18446744073709551616 n - 1 = k := by unfold wl at h; omega
  rw [hk] at ht
  have e : (18446744073709551616 : Nat) ^ k = 2 ^ (k * 64) := by rw [Nat.mul_comm, Nat.pow_mul]
  rw [e] at ht
  have := nlen2_shift (k * 64) n (by omega)
  rw [this, Lib.bitLen, bitLen_eq _ _ (show wd n k < 2 ^ 64 from wd_lt n k)]
  have hd : wd n k = n / 2 ^ (k * 64) := ht.1
  rw [hd]
theorem madd_eq {x y c d : Nat} (hx : x < 18446744073709551616) (hy : y < 18446744073709551616) (hc : c < 18446744073709551616) (hd : d < 18446744073709551616) :
    ((x * y % 18446744073709551616 + c) % 18446744073709551616 + d) % 18446744073709551616 = (x * y + c + d) % 18446744073709551616 ∧
    x * y / 18446744073709551616 + (x * y % 18446744073709551616 + c) / 18446744073709551616 + ((x * y % 18446744073709551616 + c) % 18446744073709551616 + d) / 18446744073709551616 = (x * y + c + d) / 18446744073709551616 ∧
    (x * y + c + d) / 18446744073709551616 < 18446744073709551616 := by
  have h1 : x * y ≤ 18446744073709551615 * 18446744073709551615 := Nat.mul_le_mul (by omega) (by omega)
  generalize x * y = p at *
  omega
set_option maxRecDepth 100000 in
set_option maxHeartbeats 4000000 in
theorem multiplyAdd_run (x y c d : Nat) (w : World) (hx : x < 18446744073709551616) (hy : y < 18446744073709551616) (hc : c < 18446744073709551616) (hd : d < 18446744073709551616) :
    Calls Tryz.prog 131 #[.int .u64 (x : Int), .int .u64 (y : Int), .int .u64 (c : Int), .int .u64 (d : Int)] w fun e w' =>
      e = .returned (.tuple #[.int .u64 (((x * y + c + d) / 18446744073709551616 : Nat) : Int), .int .u64 (((x * y + c + d) % 18446744073709551616 : Nat) : Int)]) ∧ w' = w := by
  obtain ⟨e1, e2, e3⟩ := madd_eq hx hy hc hd
  have HM := Lib.hid (fun W => Tryz.bits_Mul64 x y hx hy W)
  obtain ⟨hi, hhi⟩ : ∃ hi, x * y / 18446744073709551616 = hi := ⟨_, rfl⟩
  obtain ⟨lo, hlo⟩ : ∃ lo, x * y % 18446744073709551616 = lo := ⟨_, rfl⟩
  obtain ⟨H, hH⟩ : ∃ H, (x * y + c + d) / 18446744073709551616 = H := ⟨_, rfl⟩
  obtain ⟨L, hL⟩ : ∃ L, (x * y + c + d) % 18446744073709551616 = L := ⟨_, rfl⟩
  rw [hhi, hlo] at HM
  rw [hlo, hL] at e1
  rw [hhi, hlo, hH] at e2
  rw [hH] at e3
  rw [hH, hL]
  clear hhi hlo hH hL hx hy hc hd
  obtain ⟨s, hs⟩ : ∃ s, (lo + c) % 18446744073709551616 = s := ⟨_, rfl⟩
  obtain ⟨k, hk⟩ : ∃ k, (lo + c) / 18446744073709551616 = k := ⟨_, rfl⟩
  obtain ⟨k2, hk2⟩ : ∃ k2, (s + d) / 18446744073709551616 = k2 := ⟨_, rfl⟩
  have a1 : ∀ W, (callFunc 156 #[.int .u64 (lo : Int), .int .u64 (c : Int), .int .u64 0]).run Tryz.prog W = .ok (.value (.tuple #[.int .u64 (s : Int), .int .u64 (k : Int)])) W := fun W => by
    have := add64_run lo c 0 (by decide) W
    rwa [Nat.add_zero, hs, hk] at this
  rw [hs, hk, hk2] at e2
  rw [hs] at e1
  have a2 : ∀ W, (callFunc 156 #[.int .u64 (s : Int), .int .u64 (d : Int), .int .u64 0]).run Tryz.prog W = .ok (.value (.tuple #[.int .u64 (L : Int), .int .u64 (k2 : Int)])) W := fun W => by
    have := add64_run s d 0 (by decide) W
    rwa [Nat.add_zero, e1, hk2] at this
  have w1 : (hi : Int) + (k : Int) ≤ 18446744073709551615 := by omega
  have w2 : IntKind.u64.wrap ((hi : Int) + (k : Int) + (k2 : Int)) = (H : Int) := by rw [IntKind.wrap_u64]; omega
  clear hs hk hk2 e1 e2 e3
  go_enter Tryz.func131, Tryz.ntmps131
  go_wp2_with fail
  refine (HM.out _).mono ?_
  rintro e w1 ⟨rfl, rfl⟩
  go_wp2
  go_ret2
  exact ⟨rfl, rfl⟩
end Go.Proofs.YtgoemhcngmpfbaaGreatDoor

/-
  Stage 7: math/bits.Div64 at a divisor whose highest bit is set.
-/
namespace Go.Proofs.YtgoemhcngmpfbaaGreatDoor
open Go.RowKit Go.Sort

/-- Where the guess stands: q parts of y1 and a rest r make H; the quotient is not above q. -/
structure Half (H y1 y0 u q r : Nat) : Prop where
  sum : q * y1 + r = H
  ge : (H * 4294967296 + u) / (y1 * 4294967296 + y0) ≤ q
theorem Half.start {H y1 y0 u : Nat} (hy : 0 < y1) (hu : u < 4294967296) : Half H y1 y0 u (H / y1) (H % y1) := by
  refine ⟨by rw [Nat.mul_comm]; exact Nat.div_add_mod _ _, ?_⟩
  apply (Nat.le_div_iff_mul_le hy).2
  have h1 := Nat.div_mul_le_self (H * 4294967296 + u) (y1 * 4294967296 + y0)
  rw [Nat.mul_add, ← Nat.mul_assoc] at h1
  generalize (H * 4294967296 + u) / (y1 * 4294967296 + y0) * y1 = a at *
  generalize (H * 4294967296 + u) / (y1 * 4294967296 + y0) * y0 = b at *
  omega
theorem Half.less {H y1 y0 u q r : Nat} (h : Half H y1 y0 u q r) (hy : 0 < y1) (hu : u < 4294967296) (hH : H < y1 * 4294967296 + y0) (hc : 4294967296 ≤ q ∨ 4294967296 * r + u < q * y0) : 0 < q ∧ Half H y1 y0 u (q - 1) (r + y1) := by
  have hs : 0 < q → (q - 1) * y1 + (r + y1) = H := fun hp => by
    have e : q = q - 1 + 1 := by omega
    have := h.sum
    rw [e, Nat.succ_mul] at this
    omega
  rcases hc with hc | hc
  · refine ⟨by omega, hs (by omega), ?_⟩
    have : (H * 4294967296 + u) / (y1 * 4294967296 + y0) < 4294967296 := (Nat.div_lt_iff_lt_mul (by omega)).2 (by omega)
    omega
  · have := half_less h.sum h.ge hc hy
    exact ⟨this.2, hs this.2, this.1⟩
theorem Half.done {H y1 y0 u q r : Nat} (h : Half H y1 y0 u q r) (hy : 0 < y1) (hc : q * y0 ≤ 4294967296 * r + u) : (H * 4294967296 + u) / (y1 * 4294967296 + y0) = q := (half_exact h.sum h.ge hc hy).symm
theorem Half.broke {H y1 y0 u q r : Nat} (h : Half H y1 y0 u q r) (hy : 0 < y1) (hy0 : y0 < 4294967296) (hH : H < y1 * 4294967296 + y0) (hr : 4294967296 ≤ r) : (H * 4294967296 + u) / (y1 * 4294967296 + y0) = q := by
  apply h.done hy
  have hq : q < 4294967296 := by
    rcases Nat.lt_or_ge q 4294967296 with h1 | h1
    · exact h1
    · have h2 : 4294967296 * y1 ≤ q * y1 := Nat.mul_le_mul_right _ h1
      have := h.sum
      generalize q * y1 = a at *
      omega
  have : q * y0 ≤ 4294967296 * 4294967296 := Nat.mul_le_mul (by omega) (by omega)
  omega
theorem div_linK (K : Nat) {l u1 u0 h a R1 b R0 : Nat} (hl : l = u1 * K + u0) (e1 : h * K + u1 = a + R1) (e0 : R1 * K + u0 = b + R0) : h * (K * K) + l = a * K + b + R0 := by
  have e2 : (h * K + u1) * K = (a + R1) * K := by rw [e1]
  rw [Nat.add_mul, Nat.add_mul, Nat.mul_assoc] at e2
  generalize h * (K * K) = x at *
  generalize u1 * K = y at *
  generalize a * K = z at *
  generalize R1 * K = t at *
  omega
theorem div_lin {l u1 u0 h a R1 b R0 : Nat} (hl : l = u1 * 4294967296 + u0) (e1 : h * 4294967296 + u1 = a + R1) (e0 : R1 * 4294967296 + u0 = b + R0) : h * 18446744073709551616 + l = a * 4294967296 + b + R0 :=
  div_linK 4294967296 hl e1 e0
theorem div_fin {A y q r : Nat} (h : A = y * q + r) (hr : r < y) : A / y = q ∧ A % y = r := by
  subst h
  rw [Nat.mul_add_div (Nat.lt_of_le_of_lt (Nat.zero_le _) hr), Nat.mul_add_mod, Nat.div_eq_of_lt hr, Nat.mod_eq_of_lt hr]
  exact ⟨rfl, rfl⟩
theorem div_split {h l y u1 u0 Q1 R1 Q0 R0 : Nat} (hl : l = u1 * 4294967296 + u0) (e1 : h * 4294967296 + u1 = Q1 * y + R1) (e0 : R1 * 4294967296 + u0 = Q0 * y + R0) (hR : R0 < y) :
    (h * 18446744073709551616 + l) / y = Q1 * 4294967296 + Q0 ∧ (h * 18446744073709551616 + l) % y = R0 :=
  div_fin ((div_lin hl e1 e0).trans (by rw [Nat.mul_comm y, Nat.add_mul, Nat.mul_right_comm])) hR
set_option maxRecDepth 100000 in
set_option maxHeartbeats 8000000 in
theorem div64_run (h l y : Nat) (w : World) (hy : 9223372036854775808 ≤ y) (hy2 : y < 18446744073709551616) (hh : h < y) (hl : l < 18446744073709551616) (hh0 : 0 < h) :
    Calls Tryz.prog 152 #[.int .u64 (h : Int), .int .u64 (l : Int), .int .u64 (y : Int)] w fun e w' =>
      e = .returned (.tuple #[.int .u64 (((h * 18446744073709551616 + l) / y : Nat) : Int), .int .u64 (((h * 18446744073709551616 + l) % y : Nat) : Int)]) ∧ w' = w := by
  have hb : Lib.bitLen y = 64 := by
    rw [Lib.bitLen, bitLen_eq _ _ (by omega)]
    exact nlen_uniq (by decide) hy2 (fun _ => hy)
  have HZ : Hid (∀ W, Calls Tryz.prog 120 #[.int .u64 (y : Int)] W fun e w' => e = .returned (.int .i64 0) ∧ w' = W) := fun W => by
    have := Tryz.bits_LeadingZeros64 (y : Int) W (by omega) (by omega)
    rwa [Int.toNat_natCast, hb] at this
  have e1 : ((y : Int) == 0) = false := by simp; omega
  have e2 : decide ((y : Int) ≤ (h : Int)) = false := by simp; omega
  have e3 : ((h : Int) == 0) = false := by simp; omega
  obtain ⟨y1, hy1⟩ : ∃ y1, y / 4294967296 = y1 := ⟨_, rfl⟩
  obtain ⟨y0, hy0⟩ : ∃ y0, y % 4294967296 = y0 := ⟨_, rfl⟩
  obtain ⟨u1, hu1⟩ : ∃ u1, l / 4294967296 = u1 := ⟨_, rfl⟩
  obtain ⟨u0, hu0⟩ : ∃ u0, l % 4294967296 = u0 := ⟨_, rfl⟩
  have ky1 : (y : Int) / 4294967296 = (y1 : Int) := by omega
  have ky0 : bits .and .u64 (y : Int) 4294967295 = (y0 : Int) := by rw [Mul64.maskN y hy2, hy0]
  have kl : (l : Int) / 18446744073709551616 = 0 := by omega
  have kor : bits .or .u64 (h : Int) 0 = (h : Int) := by
    have := bits_or_u64_nat h 0 (by omega) (by decide)
    simpa using this
  have ku1 : (l : Int) / 4294967296 = (u1 : Int) := by omega
  have ku0 : bits .and .u64 (l : Int) 4294967295 = (u0 : Int) := by rw [Mul64.maskN l hl, hu0]
  have by1 : y1 < 4294967296 ∧ 2147483648 ≤ y1 := by omega
  have by0 : y0 < 4294967296 := by omega
  have bu1 : u1 < 4294967296 := by omega
  have bu0 : u0 < 4294967296 := by omega
  have HY : Hid (y = y1 * 4294967296 + y0) := by show _ = _; omega
  have HLL : Hid (l = u1 * 4294967296 + u0) := by show _ = _; omega
  clear hy1 hy0 hu1 hu0
  obtain ⟨q, hq⟩ : ∃ q, h / y1 = q := ⟨_, rfl⟩
  obtain ⟨m, hm⟩ : ∃ m, q * y1 = m := ⟨_, rfl⟩
  obtain ⟨r, hr⟩ : ∃ r, h - m = r := ⟨_, rfl⟩
  have hmod := Nat.div_add_mod h y1
  have hmlt := Nat.mod_lt h (show y1 > 0 by omega)
  rw [hq, Nat.mul_comm, hm] at hmod
  have hrm : h % y1 = r := by omega
  rw [hrm] at hmod hmlt
  have hy1z : ((y1 : Int) == 0) = false := by simp; omega
  have hql : q ≤ h := by rw [← hq]; exact Nat.div_le_self _ _
  have kq : (h : Int).tdiv (y1 : Int) = (q : Int) := by rw [← hq]; rfl
  have kqw : IntKind.u64.wrap (q : Int) = (q : Int) := by rw [IntKind.wrap_u64]; omega
  have km : (q : Int) * (y1 : Int) = (m : Int) := by rw [← hm]; exact (Int.natCast_mul _ _).symm
  have kmw : IntKind.u64.wrap (m : Int) = (m : Int) := by rw [IntKind.wrap_u64]; omega
  have kr : (h : Int) - (m : Int) = (r : Int) := by omega
  have krw : IntKind.u64.wrap (r : Int) = (r : Int) := by rw [IntKind.wrap_u64]; omega
  go_enter Tryz.func152, Tryz.ntmps152
  go_wp2_with fail
  refine (HZ.out _).mono ?_
  rintro e w1 ⟨rfl, rfl⟩
  go_upto_block 0 with fail
  obtain ⟨Q1, hQ1⟩ : ∃ Q1, (h * 4294967296 + u1) / y = Q1 := ⟨_, rfl⟩
  have HQ1 := Lib.hid hQ1
  clear hQ1
  go_cut [15] (fun s15 wx => s15 = .int .u64 (Q1 : Int) ∧ wx = w1)
  case first =>
    have HS : Hid (Half h y1 y0 u1 q r) := by
      have := Half.start (H := h) (y1 := y1) (y0 := y0) (u := u1) (by omega) bu1
      rwa [hq, hrm] at this
    have HH : Hid (h < y1 * 4294967296 + y0) := by have := HY.out; show _ < _; omega
    rw [HY.out] at HQ1
    have hr32 : r < 4294967296 := by omega
    clear kq kqw km kmw kr krw hq hm hr hmod hmlt hrm hql kl kor ky1 ky0 ku1 ku0 e1 e2 e3 hy1z HZ HLL bu0
    go_wp2_with fail
    go_loopg [15, 16] (q + 1) (fun f s15 s16 wr => ∃ (q r : Nat), s15 = .int .u64 (q : Int) ∧ s16 = .int .u64 (r : Int) ∧ Hid (q < f) ∧ Hid (r < 4294967296) ∧ Hid (Half h y1 y0 u1 q r) ∧ Hid (q < 18446744073709551616) ∧ wr = w1)
    case atStart => exact ⟨q, r, rfl, rfl, Nat.lt_succ_self q, hr32, HS, by show _ < _; have := HS.out.sum; have := Nat.le_mul_of_pos_right q (show 0 < y1 by omega); omega, rfl⟩
    case round =>
      clear HS hr32
      obtain ⟨q, r, rfl, rfl, HF, HR, HS, HQ, rfl⟩ := hrel
      have hr32 := HR.out
      have hq64 := HQ.out
      obtain ⟨p, hp⟩ : ∃ p, q * y0 = p := ⟨_, rfl⟩
      have HP := Lib.hid hp
      have kp : (q : Int) * (y0 : Int) = (p : Int) := by rw [← hp]; exact (Int.natCast_mul _ _).symm
      by_cases hc : 4294967296 ≤ q ∨ 4294967296 * r + u1 < p
      · obtain ⟨hq0, hL⟩ := HS.out.less (by omega) bu1 HH.out (by rw [hp]; exact hc)
        obtain ⟨q', hq'⟩ : ∃ q', q - 1 = q' := ⟨_, rfl⟩
        rw [hq'] at hL
        have HL := Lib.hid hL
        have HQQ : Hid (q = q' + 1) := by show _ = _; omega
        have kq1 : (q : Int) - 1 = (q' : Int) := by omega
        have kq1w : IntKind.u64.wrap (q' : Int) = (q' : Int) := by rw [IntKind.wrap_u64]; omega
        obtain ⟨r', hr'⟩ : ∃ r', r + y1 = r' := ⟨_, rfl⟩
        have kr1 : (r : Int) + (y1 : Int) = (r' : Int) := by omega
        have kr1w : IntKind.u64.wrap (r' : Int) = (r' : Int) := by rw [IntKind.wrap_u64]; omega
        have hr64 : r' < 8589934592 := by omega
        rw [hr'] at HL
        clear hL hp hr' hq'
        by_cases hA : 4294967296 ≤ q
        · have hAz : decide ((4294967296 : Int) ≤ (q : Int)) = true := by simp; omega
          by_cases hB : 4294967296 ≤ r'
          · have hBz : decide ((4294967296 : Int) ≤ (r' : Int)) = true := by simp; omega
            have HV := Lib.hid (HL.out.broke (by omega) by0 HH.out hB)
            rw [HQ1.out] at HV
            clear hc
            go_wp2_with fail
            go_meet
            exact ⟨by rw [HV.out], rfl⟩
          · have hBz : decide ((4294967296 : Int) ≤ (r' : Int)) = false := by simp; omega
            clear hc
            go_wp2_with fail
            go_roundg q
            case measure => have := HF.out; omega
            case rel => exact ⟨q', r', by go_num, by go_num, by have := HQQ.out; show _ < _; omega, by show _ < _; omega, HL, by have := HQQ.out; show _ < _; omega, rfl⟩
        · have hAz : decide ((4294967296 : Int) ≤ (q : Int)) = false := by simp; omega
          have hp64 : p < 18446744073709551616 := by
            have : q * y0 ≤ 4294967295 * 4294967295 := Nat.mul_le_mul (by omega) (by omega)
            rw [HP.out] at this
            omega
          have kpw : IntKind.u64.wrap (p : Int) = (p : Int) := by rw [IntKind.wrap_u64]; omega
          have hCz : decide ((4294967296 : Int) * (r : Int) + (u1 : Int) < (p : Int)) = true := by simp; omega
          by_cases hB : 4294967296 ≤ r'
          · have hBz : decide ((4294967296 : Int) ≤ (r' : Int)) = true := by simp; omega
            have HV := Lib.hid (HL.out.broke (by omega) by0 HH.out hB)
            rw [HQ1.out] at HV
            clear hc
            go_wp2_with fail
            go_meet
            exact ⟨by rw [HV.out], rfl⟩
          · have hBz : decide ((4294967296 : Int) ≤ (r' : Int)) = false := by simp; omega
            clear hc
            go_wp2_with fail
            go_roundg q
            case measure => have := HF.out; omega
            case rel => exact ⟨q', r', by go_num, by go_num, by have := HQQ.out; show _ < _; omega, by show _ < _; omega, HL, by have := HQQ.out; show _ < _; omega, rfl⟩
      · have hA : ¬ 4294967296 ≤ q := fun h => hc (.inl h)
        have hC : ¬ 4294967296 * r + u1 < p := fun h => hc (.inr h)
        have hAz : decide ((4294967296 : Int) ≤ (q : Int)) = false := by simp; omega
        have hp64 : p < 18446744073709551616 := by
          have : q * y0 ≤ 4294967295 * 4294967295 := Nat.mul_le_mul (by omega) (by omega)
          rw [HP.out] at this
          omega
        have kpw : IntKind.u64.wrap (p : Int) = (p : Int) := by rw [IntKind.wrap_u64]; omega
        have hCz : decide ((4294967296 : Int) * (r : Int) + (u1 : Int) < (p : Int)) = false := by simp; omega
        have HV := Lib.hid (HS.out.done (by omega) (by rw [hp]; omega))
        rw [HQ1.out] at HV
        clear hp hc
        go_wp2_with fail
        go_meet
        exact ⟨by rw [HV.out], rfl⟩
  case rest =>
    obtain ⟨rfl, hwx⟩ := hcut
    subst hwx
    clear kq kqw km kmw kr krw hq hm hr hmod hmlt hrm hql kl kor ky1 ky0 ku1 ku0 e1 e2 e3 HZ
    obtain ⟨R1, hR1⟩ : ∃ R1, (h * 4294967296 + u1) % y = R1 := ⟨_, rfl⟩
    have hR1b : R1 < y := by rw [← hR1]; exact Nat.mod_lt _ (by omega)
    have HE1 : Hid (h * 4294967296 + u1 = Q1 * y + R1) := by
      have := Nat.div_add_mod (h * 4294967296 + u1) y
      rw [HQ1.out, hR1, Nat.mul_comm] at this
      exact this.symm
    have kR : IntKind.u64.wrap (IntKind.u64.wrap (IntKind.u64.wrap ((h : Int) * 4294967296) + (u1 : Int)) - IntKind.u64.wrap ((Q1 : Int) * (y : Int))) = (R1 : Int) := by
      have e0 := HE1.out
      have e4 : (Q1 : Int) * (y : Int) = ((Q1 * y : Nat) : Int) := (Int.natCast_mul _ _).symm
      rw [e4]
      simp only [IntKind.wrap_u64]
      generalize Q1 * y = a at *
      omega
    obtain ⟨Q0, hQ0⟩ : ∃ Q0, (R1 * 4294967296 + u0) / y = Q0 := ⟨_, rfl⟩
    obtain ⟨R0, hR0⟩ : ∃ R0, (R1 * 4294967296 + u0) % y = R0 := ⟨_, rfl⟩
    have HQ0 := Lib.hid hQ0
    have HE0 : Hid (R1 * 4294967296 + u0 = Q0 * y + R0 ∧ R0 < y) := by
      have := Nat.div_add_mod (R1 * 4294967296 + u0) y
      rw [hQ0, hR0, Nat.mul_comm] at this
      exact ⟨this.symm, by rw [← hR0]; exact Nat.mod_lt _ (by omega)⟩
    have HFIN : Hid ((h * 18446744073709551616 + l) / y = Q1 * 4294967296 + Q0 ∧ (h * 18446744073709551616 + l) % y = R0 ∧ Q0 < 4294967296 ∧ Q1 < 4294967296) := by
      have hsp := div_split HLL.out HE1.out HE0.out.1 HE0.out.2
      refine ⟨hsp.1, hsp.2, ?_, ?_⟩
      · rw [← hQ0]; exact (Nat.div_lt_iff_lt_mul (by omega)).2 (by omega)
      · rw [← HQ1.out]; exact (Nat.div_lt_iff_lt_mul (by omega)).2 (by omega)
    clear hR1 hQ0 hR0
    obtain ⟨q, hq⟩ : ∃ q, R1 / y1 = q := ⟨_, rfl⟩
    obtain ⟨m, hm⟩ : ∃ m, q * y1 = m := ⟨_, rfl⟩
    obtain ⟨r, hr⟩ : ∃ r, R1 - m = r := ⟨_, rfl⟩
    have hmod := Nat.div_add_mod R1 y1
    have hmlt := Nat.mod_lt R1 (show y1 > 0 by omega)
    rw [hq, Nat.mul_comm, hm] at hmod
    have hrm : R1 % y1 = r := by omega
    rw [hrm] at hmod hmlt
    have hql : q ≤ R1 := by rw [← hq]; exact Nat.div_le_self _ _
    have kq : (R1 : Int).tdiv (y1 : Int) = (q : Int) := by rw [← hq]; rfl
    have kqw : IntKind.u64.wrap (q : Int) = (q : Int) := by rw [IntKind.wrap_u64]; omega
    have km : (q : Int) * (y1 : Int) = (m : Int) := by rw [← hm]; exact (Int.natCast_mul _ _).symm
    have kmw : IntKind.u64.wrap (m : Int) = (m : Int) := by rw [IntKind.wrap_u64]; omega
    have kr : (R1 : Int) - (m : Int) = (r : Int) := by omega
    have krw : IntKind.u64.wrap (r : Int) = (r : Int) := by rw [IntKind.wrap_u64]; omega
    go_upto_block 2 with fail
    go_cut [18] (fun s18 wx => s18 = .int .u64 (Q0 : Int) ∧ wx = wc)
    case first =>
      have HS : Hid (Half R1 y1 y0 u0 q r) := by
        have := Half.start (H := R1) (y1 := y1) (y0 := y0) (u := u0) (by omega) bu0
        rwa [hq, hrm] at this
      have HH : Hid (R1 < y1 * 4294967296 + y0) := by have := HY.out; show _ < _; omega
      rw [HY.out] at HQ0
      have hr32 : r < 4294967296 := by omega
      clear kq kqw km kmw kr krw hq hm hr hmod hmlt hrm hql kR
      go_wp2_with fail
      go_loopg [16, 18] (q + 1) (fun f s16 s18 wr => ∃ (q r : Nat), s16 = .int .u64 (r : Int) ∧ s18 = .int .u64 (q : Int) ∧ Hid (q < f) ∧ Hid (r < 4294967296) ∧ Hid (Half R1 y1 y0 u0 q r) ∧ Hid (q < 18446744073709551616) ∧ wr = wc)
      case atStart => exact ⟨q, r, rfl, rfl, Nat.lt_succ_self q, hr32, HS, by show _ < _; have := HS.out.sum; have := Nat.le_mul_of_pos_right q (show 0 < y1 by omega); omega, rfl⟩
      case round =>
        clear HS hr32
        obtain ⟨q, r, rfl, rfl, HF, HR, HS, HQ, rfl⟩ := hrel
        have hr32 := HR.out
        have hq64 := HQ.out
        obtain ⟨p, hp⟩ : ∃ p, q * y0 = p := ⟨_, rfl⟩
        have HP := Lib.hid hp
        have kp : (q : Int) * (y0 : Int) = (p : Int) := by rw [← hp]; exact (Int.natCast_mul _ _).symm
        by_cases hc : 4294967296 ≤ q ∨ 4294967296 * r + u0 < p
        · obtain ⟨hq0, hL⟩ := HS.out.less (by omega) bu0 HH.out (by rw [hp]; exact hc)
          obtain ⟨q', hq'⟩ : ∃ q', q - 1 = q' := ⟨_, rfl⟩
          rw [hq'] at hL
          have HL := Lib.hid hL
          have HQQ : Hid (q = q' + 1) := by show _ = _; omega
          have kq1 : (q : Int) - 1 = (q' : Int) := by omega
          have kq1w : IntKind.u64.wrap (q' : Int) = (q' : Int) := by rw [IntKind.wrap_u64]; omega
          obtain ⟨r', hr'⟩ : ∃ r', r + y1 = r' := ⟨_, rfl⟩
          have kr1 : (r : Int) + (y1 : Int) = (r' : Int) := by omega
          have kr1w : IntKind.u64.wrap (r' : Int) = (r' : Int) := by rw [IntKind.wrap_u64]; omega
          have hr64 : r' < 8589934592 := by omega
          rw [hr'] at HL
          clear hL hp hr' hq'
          by_cases hA : 4294967296 ≤ q
          · have hAz : decide ((4294967296 : Int) ≤ (q : Int)) = true := by simp; omega
            by_cases hB : 4294967296 ≤ r'
            · have hBz : decide ((4294967296 : Int) ≤ (r' : Int)) = true := by simp; omega
              have HV := Lib.hid (HL.out.broke (by omega) by0 HH.out hB)
              rw [HQ0.out] at HV
              clear hc
              go_wp2_with fail
              go_meet
              exact ⟨by rw [HV.out], rfl⟩
            · have hBz : decide ((4294967296 : Int) ≤ (r' : Int)) = false := by simp; omega
              clear hc
              go_wp2_with fail
              go_roundg q
              case measure => have := HF.out; omega
              case rel => exact ⟨q', r', by go_num, by go_num, by have := HQQ.out; show _ < _; omega, by show _ < _; omega, HL, by have := HQQ.out; show _ < _; omega, rfl⟩
          · have hAz : decide ((4294967296 : Int) ≤ (q : Int)) = false := by simp; omega
            have hp64 : p < 18446744073709551616 := by
              have : q * y0 ≤ 4294967295 * 4294967295 := Nat.mul_le_mul (by omega) (by omega)
              rw [HP.out] at this
              omega
            have kpw : IntKind.u64.wrap (p : Int) = (p : Int) := by rw [IntKind.wrap_u64]; omega
            have hCz : decide ((4294967296 : Int) * (r : Int) + (u0 : Int) < (p : Int)) = true := by simp; omega
            by_cases hB : 4294967296 ≤ r'
            · have hBz : decide ((4294967296 : Int) ≤ (r' : Int)) = true := by simp; omega
              have HV := Lib.hid (HL.out.broke (by omega) by0 HH.out hB)
              rw [HQ0.out] at HV
              clear hc
              go_wp2_with fail
              go_meet
              exact ⟨by rw [HV.out], rfl⟩
            · have hBz : decide ((4294967296 : Int) ≤ (r' : Int)) = false := by simp; omega
              clear hc
              go_wp2_with fail
              go_roundg q
              case measure => have := HF.out; omega
              case rel => exact ⟨q', r', by go_num, by go_num, by have := HQQ.out; show _ < _; omega, by show _ < _; omega, HL, by have := HQQ.out; show _ < _; omega, rfl⟩
        · have hA : ¬ 4294967296 ≤ q := fun h => hc (.inl h)
          have hC : ¬ 4294967296 * r + u0 < p := fun h => hc (.inr h)
          have hAz : decide ((4294967296 : Int) ≤ (q : Int)) = false := by simp; omega
          have hp64 : p < 18446744073709551616 := by
            have : q * y0 ≤ 4294967295 * 4294967295 := Nat.mul_le_mul (by omega) (by omega)
            rw [HP.out] at this
            omega
          have kpw : IntKind.u64.wrap (p : Int) = (p : Int) := by rw [IntKind.wrap_u64]; omega
          have hCz : decide ((4294967296 : Int) * (r : Int) + (u0 : Int) < (p : Int)) = false := by simp; omega
          have HV := Lib.hid (HS.out.done (by omega) (by rw [hp]; omega))
          rw [HQ0.out] at HV
          clear hp hc
          go_wp2_with fail
          go_meet
          exact ⟨by rw [HV.out], rfl⟩

    case rest =>
      obtain ⟨rfl, hwx⟩ := hcut
      subst hwx
      obtain ⟨_, _, f3, f4⟩ := HFIN.out
      have kQ : IntKind.u64.wrap (IntKind.u64.wrap ((Q1 : Int) * 4294967296) + (Q0 : Int)) = ((Q1 * 4294967296 + Q0 : Nat) : Int) := by
        simp only [IntKind.wrap_u64]
        omega
      have kR0 : IntKind.u64.wrap (IntKind.u64.wrap (IntKind.u64.wrap ((R1 : Int) * 4294967296) + (u0 : Int)) - IntKind.u64.wrap ((Q0 : Int) * (y : Int))) = (R0 : Int) := by
        have e0 := HE0.out
        have e4 : (Q0 : Int) * (y : Int) = ((Q0 * y : Nat) : Int) := (Int.natCast_mul _ _).symm
        rw [e4]
        simp only [IntKind.wrap_u64]
        generalize Q0 * y = a at *
        omega
      clear kq kqw km kmw kr krw hq hm hr hmod hmlt hrm hql f3 f4
      go_wp2_with fail
      go_ret2
      exact ⟨by rw [HFIN.out.1, HFIN.out.2.1]; rfl, rfl⟩
end Go.Proofs.YtgoemhcngmpfbaaGreatDoor
