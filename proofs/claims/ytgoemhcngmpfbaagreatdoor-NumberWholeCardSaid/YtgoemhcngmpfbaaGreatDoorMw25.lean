/-
  Numbers by digits of 65536, as mathematics (no program): words and digits, sums, differences, products, quotients, greatest common divisors, the way the document reckons.
-/
import Derived.Test.YtgoemhcngmpfbaaGreatDoorMw02
import Derived.Test.YtgoemhcngmpfbaaGreatDoorMw24
import Derived.Test.YtgoemhcngmpfbaaGreatDoorMw07
import Derived.Laws.ResultCell

namespace Go.Proofs.YtgoemhcngmpfbaaGreatDoor
open Go.RowKit

/-- A digit by 65536; how many a number has. -/
def dg (n i : Nat) : Nat := dig 65536 n i
def nl (n : Nat) : Nat := nlen 65536 n
theorem dg_lt (n i : Nat) : dg n i < 65536 := dig_lt (by decide) n i
theorem lt_nl (n : Nat) : n < 65536 ^ nl n := lt_nlen (by decide) n
theorem nl_zero : nl 0 = 0 := nlen_zero _
theorem nl_eq_zero {n : Nat} : nl n = 0 ↔ n = 0 := nlen_eq_zero (by decide)
theorem nl_le {n k : Nat} (h : n < 65536 ^ k) : nl n ≤ k := nlen_le_of_lt (by decide) h
theorem nl_mono {a b : Nat} (h : a ≤ b) : nl a ≤ nl b := nlen_mono (by decide) h
theorem nl_uniq {n k : Nat} (h : n < 65536 ^ k) (h2 : k ≠ 0 → 65536 ^ (k - 1) ≤ n) : nl n = k := nlen_uniq (by decide) h h2
theorem nl_ge {n i : Nat} (h : 65536 ^ i ≤ n) : i < nl n := by
  have h1 := lt_nl n
  exact (Nat.pow_lt_pow_iff_right (a := 65536) (by decide)).1 (Nat.lt_of_le_of_lt h h1)
theorem ge_of_nl {n i : Nat} (h : i < nl n) : 65536 ^ i ≤ n := by
  rcases Nat.lt_or_ge n (65536 ^ i) with h1 | h1
  · have := nl_le h1
    omega
  · exact h1
theorem dg_high {n i : Nat} (h : nl n ≤ i) : dg n i = 0 := dig_high (Nat.lt_of_lt_of_le (lt_nl n) (Nat.pow_le_pow_right (by decide) h))
theorem dg_zero (i : Nat) : dg 0 i = 0 := dig_zero _ i
theorem nl_of_dg {n j : Nat} (h : n < 65536 ^ (j + 1)) (hd : dg n j ≠ 0) : nl n = j + 1 :=
  nl_uniq h fun _ => by
    rcases Nat.lt_or_ge n (65536 ^ j) with h1 | h1
    · exact absurd (dig_high h1) hd
    · exact h1
theorem lt_of_dg {n j : Nat} (h : n < 65536 ^ (j + 1)) (hd : dg n j = 0) : n < 65536 ^ j := by
  have h1 : n / 65536 ^ (j + 1) = 0 := Nat.div_eq_of_lt h
  have h2 := div_dig 65536 n j
  rw [h1] at h2
  have h3 : n / 65536 ^ j = 0 := by
    rw [h2]
    show 65536 * 0 + dg n j = 0
    rw [hd]
  rcases Nat.lt_or_ge n (65536 ^ j) with h4 | h4
  · exact h4
  · have := Nat.div_pos h4 (Nat.pow_pos (by decide) : 0 < 65536 ^ j)
    omega
theorem dg_top {n : Nat} (h : n ≠ 0) : dg n (nl n - 1) ≠ 0 := by
  obtain ⟨h1, h2⟩ := dig_top (B := 65536) (by decide) h
  show dig 65536 n (nlen 65536 n - 1) ≠ 0
  omega
/-- A word's digits. -/
theorem p654 : (65536 : Nat) ^ 4 = 18446744073709551616 := by decide
theorem wd_eq (n i : Nat) : wd n i = n / 65536 ^ (4 * i) % 65536 ^ 4 := by
  show n / 18446744073709551616 ^ i % 18446744073709551616 = _
  rw [Nat.pow_mul, p654]
theorem wd_dg (n i : Nat) {k : Nat} (hk : k < 4) : wd n i / 65536 ^ k % 65536 = dg n (4 * i + k) := by
  rw [wd_eq]
  show dig 65536 (n / 65536 ^ (4 * i) % 65536 ^ 4) k = dig 65536 n (4 * i + k)
  rw [dig_mod hk, dig_div, Nat.add_comm]
theorem fits_dg (n : Nat) : Fits n ↔ n < 65536 ^ 32 := by
  show n < 18446744073709551616 ^ 8 ↔ _
  have : (18446744073709551616 : Nat) ^ 8 = 65536 ^ 32 := by decide
  rw [this]
/-- What stands in the word i, when the digits from j on are put in. -/
def toF (n j i : Nat) : Nat := wd n i / 65536 ^ (j - 4 * i)
theorem toF_start {n j i : Nat} (h : n < 65536 ^ j) : toF n j i = 0 := by
  unfold toF
  apply Nat.div_eq_of_lt
  rw [wd_eq]
  rcases Nat.lt_or_ge j (4 * i) with h1 | h1
  · have h2 : n < 65536 ^ (4 * i) := Nat.lt_of_lt_of_le h (Nat.pow_le_pow_right (by decide) (by omega))
    rw [Nat.div_eq_of_lt h2, Nat.zero_mod]
    exact Nat.pow_pos (by decide)
  · refine Nat.lt_of_le_of_lt (Nat.mod_le _ _) ((Nat.div_lt_iff_lt_mul (Nat.pow_pos (by decide))).2 ?_)
    rw [← Nat.pow_add, Nat.sub_add_cancel h1]
    exact h
theorem toF_end (n i : Nat) : toF n 0 i = wd n i := by
  unfold toF
  rw [Nat.zero_sub, Nat.pow_zero, Nat.div_one]
theorem toF_step (n j : Nat) : toF n (j + 1) (j / 4) * 65536 + dg n j = toF n j (j / 4) := by
  unfold toF
  have h1 : j - 4 * (j / 4) = j % 4 := by omega
  have h2 : j + 1 - 4 * (j / 4) = j % 4 + 1 := by omega
  rw [h1, h2]
  have h3 := div_dig 65536 (wd n (j / 4)) (j % 4)
  have h4 := wd_dg n (j / 4) (k := j % 4) (by omega)
  have h5 : 4 * (j / 4) + j % 4 = j := by omega
  rw [h5] at h4
  have h6 : dig 65536 (wd n (j / 4)) (j % 4) = dg n j := h4
  rw [h6] at h3
  rw [h3, Nat.mul_comm]
theorem toF_other {n j i : Nat} (h : i ≠ j / 4) : toF n (j + 1) i = toF n j i := by
  unfold toF
  rcases Nat.lt_or_ge j (4 * i) with h1 | h1
  · rw [show j + 1 - 4 * i = 0 by omega, show j - 4 * i = 0 by omega]
  · have e1 : wd n i < 65536 ^ 4 := by rw [p654]; exact wd_lt n i
    have l1 : 65536 ^ 4 ≤ 65536 ^ (j - 4 * i) := Nat.pow_le_pow_right (by decide) (by omega)
    have l2 : 65536 ^ 4 ≤ 65536 ^ (j + 1 - 4 * i) := Nat.pow_le_pow_right (by decide) (by omega)
    rw [Nat.div_eq_of_lt (by omega), Nat.div_eq_of_lt (by omega)]
theorem toF_lt (n j i : Nat) : toF n j i < 18446744073709551616 := Nat.lt_of_le_of_lt (Nat.div_le_self _ _) (wd_lt n i)
/-- A sum: what is carried, and when it ends. -/
def pc (a b i : Nat) : Nat := car 65536 1 a 1 b 0 i
theorem pc_zero (a b : Nat) : pc a b 0 = 0 := car_zero _ _ _ _ _ _
theorem pc_le (a b i : Nat) : pc a b i ≤ 1 := Nat.le_of_lt_succ (car_lt (by decide) 1 a 1 b 0 i (Nat.le_refl 2) (by decide))
theorem pc_mod (a b i : Nat) : (dg a i + dg b i + pc a b i) % 65536 = dg (a + b) i := by
  have := lin_mod (B := 65536) (by decide) 1 a 1 b 0 i
  simp only [Nat.one_mul, Nat.add_zero] at this
  exact this
theorem pc_div (a b i : Nat) : (dg a i + dg b i + pc a b i) / 65536 = pc a b (i + 1) := by
  have := lin_div (B := 65536) (by decide) 1 a 1 b 0 i
  simp only [Nat.one_mul] at this
  exact this
theorem pc_top {a b i : Nat} (ha : nl a ≤ i) (hb : nl b ≤ i) : pc a b i = (a + b) / 65536 ^ i := by
  have h1 : a < 65536 ^ i := Nat.lt_of_lt_of_le (lt_nl a) (Nat.pow_le_pow_right (by decide) ha)
  have h2 : b < 65536 ^ i := Nat.lt_of_lt_of_le (lt_nl b) (Nat.pow_le_pow_right (by decide) hb)
  have := car_top 65536 1 1 0 i h1 h2
  simp only [Nat.one_mul, Nat.add_zero] at this
  exact this
/-- The sum goes on exactly below its own length. -/
theorem plus_on (a b i : Nat) : (i < nl a ∨ i < nl b ∨ 0 < pc a b i) ↔ i < nl (a + b) := by
  constructor
  · rintro (h | h | h)
    · exact Nat.lt_of_lt_of_le h (nl_mono (by omega))
    · exact Nat.lt_of_lt_of_le h (nl_mono (by omega))
    · by_cases h1 : i < nl a
      · exact Nat.lt_of_lt_of_le h1 (nl_mono (by omega))
      · by_cases h2 : i < nl b
        · exact Nat.lt_of_lt_of_le h2 (nl_mono (by omega))
        · rw [pc_top (by omega) (by omega)] at h
          have hP : 0 < 65536 ^ i := Nat.pow_pos (by decide)
          refine nl_ge ?_
          rcases Nat.lt_or_ge (a + b) (65536 ^ i) with h3 | h3
          · rw [Nat.div_eq_of_lt h3] at h; omega
          · exact h3
  · intro h
    by_cases h1 : i < nl a
    · exact Or.inl h1
    · by_cases h2 : i < nl b
      · exact Or.inr (Or.inl h2)
      · refine Or.inr (Or.inr ?_)
        rw [pc_top (by omega) (by omega)]
        exact Nat.div_pos (ge_of_nl h) (Nat.pow_pos (by decide))
theorem nl_add_le (a b : Nat) : nl (a + b) ≤ nl a + nl b + 1 := by
  rcases Nat.lt_or_ge (nl a + nl b) (nl (a + b)) with h | h
  · have h1 := ge_of_nl h
    have h2 : a < 65536 ^ (nl a + nl b) := Nat.lt_of_lt_of_le (lt_nl a) (Nat.pow_le_pow_right (by decide) (by omega))
    have h3 : b < 65536 ^ (nl a + nl b) := Nat.lt_of_lt_of_le (lt_nl b) (Nat.pow_le_pow_right (by decide) (by omega))
    refine nl_le ?_
    rw [Nat.pow_succ]
    omega
  · omega
/-- A difference: what is borrowed. -/
def mb (a b i : Nat) : Nat := brw 65536 a b i
theorem mb_zero (a b : Nat) : mb a b 0 = 0 := brw_zero _ _ _
theorem mb_le (a b i : Nat) : mb a b i ≤ 1 := brw_le _ _ _ _
theorem mb_step {a b : Nat} (h : b ≤ a) (i : Nat) : dg (a - b) i + dg b i + mb a b i = dg a i + 65536 * mb a b (i + 1) :=
  sub_step (B := 65536) (q := 0) (k := i + 1) (by decide) (by omega) (Nat.lt_succ_self i)
theorem mb_less {a b i : Nat} (h : b ≤ a) (hl : dg a i < dg b i + mb a b i) : dg a i + 65536 = dg (a - b) i + dg b i + mb a b i ∧ mb a b (i + 1) = 1 := by
  have h1 := mb_step h i
  have h2 := mb_le a b (i + 1)
  have h3 := dg_lt (a - b) i
  have h4 : mb a b (i + 1) = 1 := by
    rcases Nat.eq_zero_or_pos (mb a b (i + 1)) with h5 | h5
    · rw [h5] at h1; omega
    · omega
  rw [h4] at h1
  exact ⟨by omega, h4⟩
theorem mb_more {a b i : Nat} (h : b ≤ a) (hl : ¬ dg a i < dg b i + mb a b i) : dg a i = dg (a - b) i + dg b i + mb a b i ∧ mb a b (i + 1) = 0 := by
  have h1 := mb_step h i
  have h2 := mb_le a b (i + 1)
  have h3 := dg_lt (a - b) i
  have h4 : mb a b (i + 1) = 0 := by
    rcases Nat.eq_zero_or_pos (mb a b (i + 1)) with h5 | h5
    · exact h5
    · have : mb a b (i + 1) = 1 := by omega
      rw [this] at h1; omega
  rw [h4] at h1
  exact ⟨by omega, h4⟩
/-- A product: the lowest i digits of a, times b. -/
def mp (a b i : Nat) : Nat := a % 65536 ^ i * b
theorem mp_zero (a b : Nat) : mp a b 0 = 0 := by simp [mp, Nat.mod_one]
theorem mp_succ (a b i : Nat) : mp a b (i + 1) = mp a b i + 65536 ^ i * (dg a i * b) := by
  unfold mp
  rw [mod_succ, Nat.add_mul, Nat.mul_assoc]
  rfl
theorem mp_end {a b i : Nat} (h : nl a ≤ i) : mp a b i = a * b := by
  unfold mp
  rw [Nat.mod_eq_of_lt (Nat.lt_of_lt_of_le (lt_nl a) (Nat.pow_le_pow_right (by decide) h))]
/-- What is carried in the row i. -/
def mc (a b i k : Nat) : Nat := car 65536 1 (mp a b i / 65536 ^ i) (dg a i) b 0 k
theorem mc_zero (a b i : Nat) : mc a b i 0 = 0 := car_zero _ _ _ _ _ _
theorem mc_lt (a b i k : Nat) : mc a b i k < 65536 :=
  car_lt (by decide) _ _ _ _ _ _ (by have := dg_lt a i; omega) (by decide)
theorem mp_high (a b i k : Nat) : dg (mp a b (i + 1)) (i + k) = dg (mp a b i / 65536 ^ i + dg a i * b) k := by
  rw [mp_succ]
  show dig 65536 _ _ = dig 65536 _ _
  rw [← Nat.add_mul_div_left _ _ (Nat.pow_pos (by decide) : 0 < 65536 ^ i), dig_div, Nat.add_comm k i]
theorem mp_shift (a b i k : Nat) : dg (mp a b i) (i + k) = dg (mp a b i / 65536 ^ i) k := by
  show dig 65536 _ _ = dig 65536 _ _
  rw [dig_div, Nat.add_comm k i]
theorem mc_mod (a b i k : Nat) : (dg (mp a b i) (i + k) + dg a i * dg b k + mc a b i k) % 65536 = dg (mp a b (i + 1)) (i + k) := by
  have := lin_mod (B := 65536) (by decide) 1 (mp a b i / 65536 ^ i) (dg a i) b 0 k
  rw [mp_high, mp_shift]
  simp only [Nat.one_mul, Nat.add_zero] at this
  exact this
theorem mc_div (a b i k : Nat) : (dg (mp a b i) (i + k) + dg a i * dg b k + mc a b i k) / 65536 = mc a b i (k + 1) := by
  have := lin_div (B := 65536) (by decide) 1 (mp a b i / 65536 ^ i) (dg a i) b 0 k
  rw [mp_shift]
  simp only [Nat.one_mul] at this
  exact this
theorem mp_low (a b i : Nat) {j : Nat} (h : j < i) : dg (mp a b (i + 1)) j = dg (mp a b i) j := by
  have h1 : mp a b (i + 1) % 65536 ^ i = mp a b i % 65536 ^ i := by rw [mp_succ, Nat.add_mul_mod_self_left]
  show dig 65536 _ _ = dig 65536 _ _
  rw [← dig_mod h, h1, dig_mod h]
theorem mp_row_lt (a b i : Nat) : mp a b i / 65536 ^ i < 65536 ^ nl b := by
  refine (Nat.div_lt_iff_lt_mul (Nat.pow_pos (by decide))).2 ?_
  unfold mp
  have h1 : a % 65536 ^ i < 65536 ^ i := Nat.mod_lt _ (Nat.pow_pos (by decide))
  rw [Nat.mul_comm]
  exact Nat.lt_of_le_of_lt (Nat.mul_le_mul_left b (Nat.le_of_lt h1)) (Nat.mul_lt_mul_of_pos_right (lt_nl b) (Nat.pow_pos (by decide)))
theorem mc_top {a b i k : Nat} (hk : nl b ≤ k) : mc a b i k = (mp a b i / 65536 ^ i + dg a i * b) / 65536 ^ k := by
  have h1 : mp a b i / 65536 ^ i < 65536 ^ k := Nat.lt_of_lt_of_le (mp_row_lt a b i) (Nat.pow_le_pow_right (by decide) hk)
  have h2 : b < 65536 ^ k := Nat.lt_of_lt_of_le (lt_nl b) (Nat.pow_le_pow_right (by decide) hk)
  have := car_top 65536 1 (dg a i) 0 k h1 h2
  simp only [Nat.one_mul, Nat.add_zero] at this
  exact this
/-- A row ends one place after b at the latest. -/
theorem mc_done (a b i : Nat) : mc a b i (nl b + 1) = 0 := by
  rw [mc_top (by omega)]
  apply Nat.div_eq_of_lt
  have h1 := mp_row_lt a b i
  have h2 := dg_lt a i
  have h3 : dg a i * b ≤ 65535 * b := Nat.mul_le_mul_right _ (by omega)
  have h4 := lt_nl b
  rw [Nat.pow_succ]
  omega
/-- Where the row ended, what stands above is what is to stand there. -/
theorem mp_rest {a b i k j : Nat} (hk : nl b ≤ k) (hc : mc a b i k = 0) (hj : i + k ≤ j) : dg (mp a b (i + 1)) j = dg (mp a b i) j := by
  rw [mc_top hk] at hc
  have hP : 0 < 65536 ^ k := Nat.pow_pos (by decide)
  have hQ : 0 < 65536 ^ i := Nat.pow_pos (by decide)
  have h1 : mp a b i / 65536 ^ i + dg a i * b < 65536 ^ k := by
    rcases Nat.lt_or_ge (mp a b i / 65536 ^ i + dg a i * b) (65536 ^ k) with h | h
    · exact h
    · have := Nat.div_pos h hP; omega
  have h2 : mp a b (i + 1) / 65536 ^ i < 65536 ^ k := by rw [mp_succ, Nat.add_mul_div_left _ _ hQ]; exact h1
  have h3 : mp a b (i + 1) < 65536 ^ j := by
    have := (Nat.div_lt_iff_lt_mul hQ).1 h2
    rw [← Nat.pow_add] at this
    exact Nat.lt_of_lt_of_le this (Nat.pow_le_pow_right (by decide) (by omega))
  have h4 : mp a b i < 65536 ^ j := by have := mp_succ a b i; omega
  show dig 65536 _ _ = dig 65536 _ _
  rw [dig_high h3, dig_high h4]
theorem mul_lt_nl (a b : Nat) : a * b < 65536 ^ (nl a + nl b + 1) := by
  have h1 := lt_nl a
  have h2 := lt_nl b
  have h3 : a * b < 65536 ^ nl a * 65536 ^ nl b := by
    by_cases hb : b = 0
    · subst hb; rw [Nat.mul_zero]; exact Nat.mul_pos (Nat.pow_pos (by decide)) (Nat.pow_pos (by decide))
    · exact Nat.lt_of_lt_of_le (Nat.mul_lt_mul_of_pos_right h1 (by omega)) (Nat.mul_le_mul_left _ (Nat.le_of_lt h2))
  rw [← Nat.pow_add] at h3
  exact Nat.lt_of_lt_of_le h3 (Nat.pow_le_pow_right (by decide) (by omega))
theorem nl_mul_le (a b : Nat) : nl (a * b) ≤ nl a + nl b := by
  refine nl_le ?_
  rw [Nat.pow_add]
  by_cases hb : b = 0
  · subst hb; rw [Nat.mul_zero]; exact Nat.mul_pos (Nat.pow_pos (by decide)) (Nat.pow_pos (by decide))
  · exact Nat.lt_of_lt_of_le (Nat.mul_lt_mul_of_pos_right (lt_nl a) (by omega)) (Nat.mul_le_mul_left _ (Nat.le_of_lt (lt_nl b)))
/-- Bits of a digit. -/
theorem p216 : (2 : Nat) ^ 16 = 65536 := by decide
theorem dg_eq (n i : Nat) : dg n i = n / 2 ^ (16 * i) % 2 ^ 16 := by
  show n / 65536 ^ i % 65536 = _
  rw [Nat.pow_mul, p216]
theorem dg_bit (n i : Nat) {k : Nat} (hk : k < 16) : dg n i / 2 ^ k % 2 = dig 2 n (16 * i + k) := by
  rw [dg_eq]
  show dig 2 (n / 2 ^ (16 * i) % 2 ^ 16) k = dig 2 n (16 * i + k)
  rw [dig_mod hk, dig_div, Nat.add_comm]
theorem pow_bits (i : Nat) : (65536 : Nat) ^ i = 2 ^ (16 * i) := by rw [Nat.pow_mul, p216]
/-- A digit of the quotient whose lowest k bits are not found yet. -/
def qd (q i k : Nat) : Nat := dg q i / 2 ^ k * 2 ^ k
theorem qd_start (q i : Nat) : qd q i 16 = 0 := by
  unfold qd
  rw [p216, Nat.div_eq_of_lt (dg_lt q i), Nat.zero_mul]
theorem qd_end (q i : Nat) : qd q i 0 = dg q i := by simp [qd]
theorem qd_step (q i : Nat) {k : Nat} (hk : k < 16) : qd q i k = qd q i (k + 1) + dig 2 q (16 * i + k) * 2 ^ k := by
  unfold qd
  rw [← dg_bit q i hk]
  have := div_dig 2 (dg q i) k
  have e : dig 2 (dg q i) k = dg q i / 2 ^ k % 2 := rfl
  rw [e] at this
  generalize dg q i / 2 ^ k % 2 = y at *
  rw [this, Nat.pow_succ, Nat.add_mul]
  congr 1
  rw [Nat.mul_comm 2, Nat.mul_assoc, Nat.mul_comm 2]
theorem qd_le (q i k : Nat) : qd q i k < 65536 := Nat.lt_of_le_of_lt (Nat.div_mul_le_self _ _) (dg_lt q i)
/-- The remainder when the bits from p on are divided. -/
def rm (a b p : Nat) : Nat := a / 2 ^ p % b
theorem rm_step {a b : Nat} (hb : 0 < b) (p : Nat) :
    (b ≤ 2 * rm a b (p + 1) + dig 2 a p → dig 2 (a / b) p = 1 ∧ rm a b p = 2 * rm a b (p + 1) + dig 2 a p - b) ∧ (¬ b ≤ 2 * rm a b (p + 1) + dig 2 a p → dig 2 (a / b) p = 0 ∧ rm a b p = 2 * rm a b (p + 1) + dig 2 a p) := by
  obtain ⟨h1, h2, h3⟩ := long_step (B := 2) (A := a) (D := b) (i := p) (by decide) hb
  have e : a / 2 ^ (p + 1) % b * 2 + dig 2 a p = 2 * rm a b (p + 1) + dig 2 a p := by rw [Nat.mul_comm]; rfl
  rw [e] at h1 h2 h3
  have e2 : rm a b p = a / 2 ^ p % b := rfl
  rw [← e2] at h2
  generalize 2 * rm a b (p + 1) + dig 2 a p = y at *
  refine ⟨fun h => ?_, fun h => ?_⟩
  · have h4 : y / b = 1 := by
      have := Nat.div_eq_sub_div hb h
      rw [Nat.div_eq_of_lt (show y - b < b by omega)] at this
      omega
    rw [Nat.mod_eq_sub_mod h, Nat.mod_eq_of_lt (show y - b < b by omega)] at h2
    exact ⟨by omega, h2⟩
  · rw [Nat.div_eq_of_lt (show y < b by omega)] at h1
    rw [Nat.mod_eq_of_lt (show y < b by omega)] at h2
    exact ⟨h1, h2⟩
theorem rm_lt (a : Nat) {b : Nat} (hb : 0 < b) (p : Nat) : rm a b p < b := Nat.mod_lt _ hb
theorem rm_start {a b p : Nat} (h : a < 2 ^ p) : rm a b p = 0 := by
  unfold rm
  rw [Nat.div_eq_of_lt h, Nat.zero_mod]
theorem rm_end (a b : Nat) : rm a b 0 = a % b := by simp [rm]
theorem dig2_le (n i : Nat) : dig 2 n i ≤ 1 := Nat.le_of_lt_succ (dig_lt (by decide) n i)
theorem nl_div_le (a b : Nat) : nl (a / b) ≤ nl a := nl_mono (Nat.div_le_self _ _)
theorem div_lt_nl (a b : Nat) : a / b < 65536 ^ nl a := Nat.lt_of_le_of_lt (Nat.div_le_self _ _) (lt_nl a)
/-- The greatest common divisor by taking off. -/
theorem gcd_off {x y m : Nat} (h : y * m ≤ x) : Nat.gcd y (x - y * m) = Nat.gcd x y := by
  apply Nat.dvd_antisymm
  · refine Nat.dvd_gcd ?_ (Nat.gcd_dvd_left _ _)
    have h1 : Nat.gcd y (x - y * m) ∣ (x - y * m) + y * m := Nat.dvd_add (Nat.gcd_dvd_right _ _) (Nat.dvd_trans (Nat.gcd_dvd_left _ _) (Nat.dvd_mul_right _ _))
    rwa [Nat.sub_add_cancel h] at h1
  · exact Nat.dvd_gcd (Nat.gcd_dvd_right _ _) (Nat.dvd_sub (Nat.gcd_dvd_left _ _) (Nat.dvd_trans (Nat.gcd_dvd_right _ _) (Nat.dvd_mul_right _ _)))
/-- How often the lesser one can be doubled. -/
theorem dbl_fits {x y : Nat} (hy : y ≠ 0) (hyx : y ≤ x) : nlen 2 y ≤ nlen 2 x ∧ (¬ y * 2 ^ (nlen 2 x - nlen 2 y) ≤ x → 1 ≤ nlen 2 x - nlen 2 y ∧ y * 2 ^ (nlen 2 x - nlen 2 y - 1) ≤ x) := by
  have h1 : nlen 2 y ≤ nlen 2 x := nlen_mono (by decide) hyx
  refine ⟨h1, fun h => ?_⟩
  have h2 : nlen 2 x - nlen 2 y ≠ 0 := fun e => by rw [e, Nat.pow_zero, Nat.mul_one] at h; exact h hyx
  refine ⟨by omega, ?_⟩
  have h3 := lt_nlen (B := 2) (by decide) y
  have h4 := nlen_le (B := 2) (by decide) x (by omega)
  have h5 : y * 2 ^ (nlen 2 x - nlen 2 y - 1) ≤ 2 ^ nlen 2 y * 2 ^ (nlen 2 x - nlen 2 y - 1) := Nat.mul_le_mul_right _ (Nat.le_of_lt h3)
  rw [← Nat.pow_add, show nlen 2 y + (nlen 2 x - nlen 2 y - 1) = nlen 2 x - 1 by omega] at h5
  exact Nat.le_trans h5 h4
theorem nl_pow (n : Nat) : nl (2 ^ n) = n / 16 + 1 := by
  refine nl_uniq ?_ fun _ => ?_
  · rw [pow_bits]
    exact Nat.pow_lt_pow_right (by decide) (by omega)
  · rw [pow_bits]
    exact Nat.pow_le_pow_right (by decide) (by omega)
theorem dg_pow (n : Nat) : (∀ j, j < n / 16 → dg (2 ^ n) j = 0) ∧ dg (2 ^ n) (n / 16) = 2 ^ (n % 16) := by
  constructor
  · intro j hj
    rw [dg_eq, Nat.pow_div (by omega) (by decide)]
    have : 16 ∣ 16 := Nat.dvd_refl _
    rw [show n - 16 * j = 16 + (n - 16 * j - 16) by omega, Nat.pow_add, Nat.mul_mod_right]
  · rw [dg_eq, Nat.pow_div (by omega) (by decide), show n - 16 * (n / 16) = n % 16 by omega]
    exact Nat.mod_eq_of_lt (Nat.pow_lt_pow_right (by decide) (Nat.mod_lt _ (by decide)))
/-- How many bits a number has: those of its highest digit, and sixteen for each other one. -/
theorem bits_top {n : Nat} (h : n ≠ 0) : nlen 2 n = 16 * (nl n - 1) + nlen 2 (dg n (nl n - 1)) := by
  obtain ⟨e, hp⟩ := dig_top (B := 65536) (by decide) h
  have hd : dg n (nl n - 1) = n / 65536 ^ (nl n - 1) := e
  have hp' : 0 < n / 65536 ^ (nl n - 1) := hp
  rw [hd]
  rw [pow_bits] at hp' ⊢
  obtain ⟨P, hP⟩ : ∃ P, 16 * (nl n - 1) = P := ⟨_, rfl⟩
  rw [hP] at hp' ⊢
  have h1 := lt_nlen (B := 2) (by decide) (n / 2 ^ P)
  have h2 := nlen_le (B := 2) (by decide) (n / 2 ^ P) (by omega)
  have h3 : nlen 2 (n / 2 ^ P) ≠ 0 := fun e => by have := (nlen_eq_zero (B := 2) (by decide)).1 e; omega
  have h0 : 0 < 2 ^ P := Nat.pow_pos (by decide)
  refine nlen_uniq (by decide) ?_ fun _ => ?_
  · rw [Nat.pow_add, Nat.mul_comm]
    exact (Nat.div_lt_iff_lt_mul h0).1 h1
  · rw [show P + nlen 2 (n / 2 ^ P) - 1 = (nlen 2 (n / 2 ^ P) - 1) + P by omega, Nat.pow_add]
    exact (Nat.le_div_iff_mul_le h0).1 h2
end Go.Proofs.YtgoemhcngmpfbaaGreatDoor

/-
  The document's answers for layer 7: digits by 65536 in slices; trim, digit, Order.
-/
namespace Go.Proofs.YtgoemhcngmpfbaaGreatDoor
open Go.RowKit Go.Sort
set_option linter.unusedSimpArgs false

/-- The lowest L digits of a number. -/
def digl (L n : Nat) : List Int := (List.range L).map fun i => ((dg n i : Nat) : Int)
theorem digl_length (L n : Nat) : (digl L n).length = L := by simp [digl]
theorem digl_get {L n i : Nat} (h : i < L) : (digl L n)[i]? = some ((dg n i : Nat) : Int) := by
  unfold digl
  rw [List.getElem?_map, List.getElem?_range h]
  rfl
theorem digl_zero (n : Nat) : digl 0 n = [] := rfl
theorem digl_succ (L n : Nat) : digl (L + 1) n = digl L n ++ [((dg n L : Nat) : Int)] := by simp [digl, List.range_succ]
theorem digl_ext {L n m : Nat} (h : ∀ i, i < L → dg n i = dg m i) : digl L n = digl L m := by
  unfold digl
  refine List.map_congr_left fun i hi => ?_
  rw [h i (List.mem_range.1 hi)]
/-- The digits of n lie in the first L cells of a slice. -/
def DgAt (w : World) (A : Option Addr) (L n : Nat) : Prop := 0 < L → ∃ b o, A = some ⟨b, o, none⟩ ∧ b < w.heap.size ∧ ∀ i, i < L → w.cell? ⟨b, o + i, none⟩ = some (.int .i64 ((dg n i : Nat) : Int))
theorem DgAt.of_nums {w : World} {A : Option Addr} {L n : Nat} (h : NumsK .i64 w w.heap.size A (digl L n)) : DgAt w A L n := fun hp => by
  obtain ⟨b, o, e, hb, hc⟩ := h (by rw [digl_length]; exact hp)
  exact ⟨b, o, e, hb, fun i hi => hc i _ (digl_get hi)⟩
theorem DgAt.nums {w : World} {A : Option Addr} {L n : Nat} (h : DgAt w A L n) : NumsK .i64 w w.heap.size A (digl L n) := fun hp => by
  rw [digl_length] at hp
  obtain ⟨b, o, e, hb, hc⟩ := h hp
  refine ⟨b, o, e, hb, fun i x hx => ?_⟩
  have hi : i < L := by have := (List.getElem?_eq_some_iff.1 hx).1; rwa [digl_length] at this
  rw [digl_get hi] at hx
  cases hx
  exact hc i hi
theorem DgAt.keep {w w' : World} {A : Option Addr} {L n B : Nat} (h : DgAt w A L n) (hb : Below B w w') (hB : w.heap.size ≤ B) : DgAt w' A L n := fun hp => by
  obtain ⟨b, o, e, hl, hc⟩ := h hp
  exact ⟨b, o, e, Nat.lt_of_lt_of_le hl hb.size, fun i hi => (hb.cell (p := ⟨b, o + i, none⟩) (Nat.lt_of_lt_of_le hl hB)).trans (hc i hi)⟩
theorem DgAt.below {w w' : World} {A : Option Addr} {L n : Nat} (h : DgAt w A L n) (hb : Below w.heap.size w w') : DgAt w' A L n := h.keep hb (Nat.le_refl _)
theorem DgAt.take {w : World} {A : Option Addr} {L M n : Nat} (h : DgAt w A L n) (hM : M ≤ L) : DgAt w A M n := fun hp => by
  obtain ⟨b, o, e, hl, hc⟩ := h (by omega)
  exact ⟨b, o, e, hl, fun i hi => hc i (by omega)⟩
theorem DgAt.nil {w : World} {A : Option Addr} {n : Nat} : DgAt w A 0 n := fun h => absurd h (by omega)
theorem DgAt.drew {w : World} {A : Option Addr} {L n : Nat} (h : DgAt w A L n) : DgAt w.drew A L n := h
theorem DgAt.mod {w : World} {A : Option Addr} {L n m : Nat} (h : DgAt w A L n) (e : ∀ i, i < L → dg n i = dg m i) : DgAt w A L m := fun hp => by
  obtain ⟨b, o, ea, hl, hc⟩ := h hp
  exact ⟨b, o, ea, hl, fun i hi => by rw [← e i hi]; exact hc i hi⟩
/-- A slice's bounds. -/
def Cap (L cap : Nat) : Prop := L ≤ cap ∧ cap ≤ 9223372036854775807
/-- The document's number. -/
def numV (s : Bool) (A : Option Addr) (L cap : Nat) : Value := .agg #[.bool s, .slice A L cap]

set_option maxRecDepth 100000 in
set_option maxHeartbeats 2000000 in
theorem trim_run (s z : Bool) (A : Option Addr) (L cap n m : Nat) (w : World) (h : Hid (DgAt w A L n)) (hn : Hid (n < 65536 ^ L)) (hc : Hid (Cap L cap)) (hz : Hid (sgn s n = z)) (hm : Hid (nl n = m)) :
    Calls Tryz.prog 76 #[.bool s, .slice A L cap] w fun e w' => e = .returned (.agg #[.bool z, .slice A m cap]) ∧ Below w.heap.size w w' := by
  have b0 := Lib.hid (below_alloc w (.cells #[.bool false, .slice none 0 0] 57))
  have hcp := hc.out
  unfold Cap at hcp
  go_enter Tryz.func76, Tryz.ntmps76
  go_wp2_with fail
  go_loopg [5] (L + 1) (fun h s5 wr => ∃ j : Nat, s5 = .int .i64 (j : Int) ∧ Hid (j < h ∧ n < 65536 ^ j) ∧ j ≤ L ∧ wr = w.alloc (.cells #[.bool false, .slice none 0 0] 57))
  case atStart => exact ⟨L, rfl, ⟨Nat.lt_succ_self _, hn.out⟩, Nat.le_refl _, rfl⟩
  case round =>
    obtain ⟨j, rfl, HJ, hjl, rfl⟩ := hrel
    cases j with
    | zero =>
      have h0 : n = 0 := by have := HJ.out.2; rw [Nat.pow_zero] at this; omega
      obtain rfl : m = 0 := by rw [← hm.out, h0, nl_zero]
      obtain rfl : z = false := by rw [← hz.out, h0]; simp [sgn]
      clear h0
      cases A with
      | none =>
        cases s
        · go_wp2_with fail
          (try simp only [Exit.inBlock, Exit.then])
          refine bodyPost_ret (v := .agg #[.bool false, .slice none 0 cap]) (by rw [results_cell1 rfl]; go_simp; try rfl) rfl ⟨rfl, below_alloc _ _⟩
        · go_wp2_with fail
          (try simp only [Exit.inBlock, Exit.then])
          refine bodyPost_ret (v := .agg #[.bool false, .slice none 0 cap]) (by rw [results_cell1 rfl]; go_simp; try rfl) rfl ⟨rfl, below_alloc _ _⟩
      | some a =>
        cases s
        · go_wp2_with fail
          (try simp only [Exit.inBlock, Exit.then])
          refine bodyPost_ret (v := .agg #[.bool false, .slice (some a) 0 cap]) (by rw [results_cell1 rfl]; go_simp; try rfl) rfl ⟨rfl, below_alloc _ _⟩
        · go_wp2_with fail
          (try simp only [Exit.inBlock, Exit.then])
          refine bodyPost_ret (v := .agg #[.bool false, .slice (some a) 0 cap]) (by rw [results_cell1 rfl]; go_simp; try rfl) rfl ⟨rfl, below_alloc _ _⟩
    | succ i =>
      obtain ⟨b, o, rfl, hbl, hcell⟩ := h.out (by omega)
      have hx := (World.cell?_alloc_lt w (.cells #[.bool false, .slice none 0 0] 57) ⟨b, o + i, none⟩ hbl).trans (hcell i (by omega))
      clear hcell
      by_cases hd : dg n i = 0
      · have HJ2 : Hid (i < i + 1 ∧ n < 65536 ^ i) := ⟨by omega, lt_of_dg HJ.out.2 hd⟩
        go_wp2_with fail
        go_roundg (i + 1)
        case measure => have := HJ.out; omega
        case rel => exact ⟨i, by go_num, HJ2, by omega, rfl⟩
      · have hm0 : nl n = i + 1 := nl_of_dg HJ.out.2 hd
        obtain rfl : m = i + 1 := by rw [← hm.out, hm0]
        have hn0 : n ≠ 0 := fun e => by rw [e, nl_zero] at hm0; omega
        obtain rfl : z = s := by rw [← hz.out]; simp [sgn, hn0]
        clear hm0 hn0
        cases z
        · go_wp2_with fail
          (try simp only [Exit.inBlock, Exit.then])
          refine bodyPost_ret (v := .agg #[.bool false, .slice (some ⟨b, o, none⟩) (i + 1) cap]) (by rw [results_cell1 rfl]; go_simp; try rfl) rfl ⟨rfl, below_alloc _ _⟩
        · go_wp2_with fail
          (try simp only [Exit.inBlock, Exit.then])
          refine bodyPost_ret (v := .agg #[.bool true, .slice (some ⟨b, o, none⟩) (i + 1) cap]) (by rw [results_cell1 rfl]; go_simp; try rfl) rfl ⟨rfl, below_alloc _ _⟩
set_option maxRecDepth 100000 in
set_option maxHeartbeats 2000000 in
theorem digit_run (A : Option Addr) (L cap n i : Nat) (d : Nat) (w : World) (h : Hid (DgAt w A L n)) (hn : Hid (nl n ≤ L)) (hc : Hid (Cap L cap)) (hi : i ≤ 1000000) (hd : Hid (dg n i = d)) :
    Calls Tryz.prog 125 #[.slice A L cap, .int .i64 (i : Int)] w fun e w' => e = .returned (.int .i64 (d : Int)) ∧ w = w' := by
  have hcp := hc.out
  unfold Cap at hcp
  by_cases hlt : i < L
  · obtain ⟨b, o, rfl, hbl, hcell⟩ := h.out (by omega)
    have hx := hcell i hlt
    rw [hd.out] at hx
    clear hcell
    go_enter Tryz.func125, Tryz.ntmps125
    go_wp2_with fail
    go_ret
    exact ⟨rfl, rfl⟩
  · obtain rfl : d = 0 := by rw [← hd.out]; exact dg_high (by have := hn.out; omega)
    go_enter Tryz.func125, Tryz.ntmps125
    go_wp2_with fail
    go_ret
    exact ⟨rfl, rfl⟩
theorem cmpN_digs {a b i : Nat} (h : a / 65536 ^ (i + 1) = b / 65536 ^ (i + 1)) (hd : ¬ dg a i = dg b i) : cmpN a b = if dg a i < dg b i then -1 else 1 := by
  rcases Nat.lt_or_ge (dg a i) (dg b i) with h1 | h1
  · rw [if_pos h1, cmpN_lt (lt_of_dig (by decide) h h1)]
  · rw [if_neg (by omega), cmpN_gt (lt_of_dig (by decide) h.symm (show dg b i < dg a i by omega))]
set_option maxRecDepth 100000 in
set_option maxHeartbeats 4000000 in
theorem Order_run7 (A B : Option Addr) (L M ca cb a b : Nat) (c : Int) (w : World) (ha : Hid (DgAt w A L a)) (hb : Hid (DgAt w B M b)) (hL : Hid (nl a = L)) (hM : Hid (nl b = M)) (hca : Hid (Cap L ca)) (hcb : Hid (Cap M cb)) (hc : Hid (cmpN a b = c)) :
    Calls Tryz.prog 75 #[.slice A L ca, .slice B M cb] w fun e w' => e = .returned (.int .i64 c) ∧ Below w.heap.size w w' := by
  have hcp := hca.out
  have hcq := hcb.out
  unfold Cap at hcp hcq
  by_cases hne : L = M
  · subst hne
    have HE0 : Hid (a / 65536 ^ L = b / 65536 ^ L) := by
      show _ = _
      have h1 := lt_nl a
      have h2 := lt_nl b
      rw [hL.out] at h1
      rw [hM.out] at h2
      rw [Nat.div_eq_of_lt h1, Nat.div_eq_of_lt h2]
    go_enter Tryz.func75, Tryz.ntmps75
    go_wp2_with fail
    go_loopg [5] (L + 1) (fun h s5 wr => ∃ (z : Int) (j : Nat), s5 = .int .i64 z ∧ Hid (z = (j : Int) - 1 ∧ j < h) ∧ j ≤ L ∧ Hid (a / 65536 ^ j = b / 65536 ^ j) ∧ Hid (Below w.heap.size w wr))
    case atStart => exact ⟨(L : Int) - 1, L, by go_num, by show _ ∧ _; omega, Nat.le_refl _, HE0, Below.refl _ _⟩
    case round =>
      obtain ⟨z, j, rfl, HJ, hjl, HE, HW⟩ := hrel
      cases j with
      | zero =>
        obtain rfl : z = -1 := by have := HJ.out.1; omega
        obtain rfl : c = 0 := by
          have := HE.out
          rw [Nat.pow_zero, Nat.div_one, Nat.div_one] at this
          exact hc.out.symm.trans (cmpN_eq this)
        go_wp2_with fail
        go_ret
        exact ⟨rfl, HW.out⟩
      | succ i =>
        obtain rfl : z = (i : Int) := by have := HJ.out.1; omega
        obtain ⟨b1, o1, rfl, hbl1, hcell1⟩ := ha.out (by omega)
        obtain ⟨b2, o2, rfl, hbl2, hcell2⟩ := hb.out (by omega)
        have hx1 := (HW.out.cell (p := ⟨b1, o1 + i, none⟩) hbl1).trans (hcell1 i (by omega))
        have hx2 := (HW.out.cell (p := ⟨b2, o2 + i, none⟩) hbl2).trans (hcell2 i (by omega))
        clear hcell1 hcell2
        have hil : i < L := by omega
        have hz : (i : Int) < (L : Int) := by omega
        by_cases hd : dg a i = dg b i
        · have HN : Hid (a / 65536 ^ i = b / 65536 ^ i) := div_eq_step HE.out hd
          rw [← hd] at hx2
          have hl : (decide ((dg a i : Int) < (dg a i : Int))) = false := by simp
          go_wp2_with fail
          go_quiet (fail)
          go_wp2_with fail
          replace hx1 : (wr.drewN nq).cell? _ = _ := hx1
          replace hx2 : (wr.drewN nq).cell? _ = _ := hx2
          have HW2 : Hid (Below w.heap.size w (wr.drewN nq)) := HW.out.drewN nq
          clear HW
          generalize wr.drewN nq = wq at *
          go_quiet (fail)
          go_wp2_with fail
          go_roundg (i + 1)
          case measure => have := HJ.out; omega
          case rel => exact ⟨(i : Int) - 1, i, by go_num, by show _ ∧ _; have := HJ.out; omega, by omega, HN, HW2.out.drewN _⟩
        · have HC := cmpN_digs HE.out hd
          rw [hc.out] at HC
          by_cases hl : dg a i < dg b i
          · rw [if_pos hl] at HC
            subst HC
            have hlz : (decide ((dg a i : Int) < (dg b i : Int))) = true := by simp; omega
            go_wp2_with fail
            go_quiet (fail)
            go_wp2_with fail
            go_ret
            exact ⟨rfl, HW.out.drewN _⟩
          · rw [if_neg hl] at HC
            subst HC
            have hlz : (decide ((dg a i : Int) < (dg b i : Int))) = false := by simp; omega
            have hgz : (decide ((dg b i : Int) < (dg a i : Int))) = true := by simp; omega
            go_wp2_with fail
            go_quiet (fail)
            go_wp2_with fail
            replace hx1 : (wr.drewN nq).cell? _ = _ := hx1
            replace hx2 : (wr.drewN nq).cell? _ = _ := hx2
            have HW2 : Hid (Below w.heap.size w (wr.drewN nq)) := HW.out.drewN nq
            clear HW
            generalize wr.drewN nq = wq at *
            go_quiet (fail)
            go_wp2_with fail
            go_ret
            exact ⟨rfl, HW2.out.drewN _⟩
  · have hnz : ¬ (L : Int) = (M : Int) := by omega
    by_cases hl : L < M
    · have h1 : a < b := by
        rcases Nat.lt_or_ge a b with h | h
        · exact h
        · have := nl_mono h
          have := hL.out
          have := hM.out
          omega
      have HC := cmpN_lt h1
      rw [hc.out] at HC
      subst HC
      clear h1
      go_enter Tryz.func75, Tryz.ntmps75
      go_wp2_with fail
      go_ret
      exact ⟨rfl, Below.refl _ _⟩
    · have h1 : b < a := by
        rcases Nat.lt_or_ge b a with h | h
        · exact h
        · have := nl_mono h
          have := hL.out
          have := hM.out
          omega
      have HC := cmpN_gt h1
      rw [hc.out] at HC
      subst HC
      clear h1
      go_enter Tryz.func75, Tryz.ntmps75
      go_wp2_with fail
      go_ret
      exact ⟨rfl, Below.refl _ _⟩
end Go.Proofs.YtgoemhcngmpfbaaGreatDoor
