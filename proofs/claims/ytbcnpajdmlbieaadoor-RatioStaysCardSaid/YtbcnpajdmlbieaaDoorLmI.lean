/-
  Stage 7: limb's divide.
-/
import Derived.Test.YtbcnpajdmlbieaaDoorLmH
namespace Go.Proofs.YtbcnpajdmlbieaaDoor
open Go.RowKit Go.Sort

/-- The rest in the midst of a long division. -/
def dvV (A D j : Nat) : Nat := A / 18446744073709551616 ^ j % D * 18446744073709551616 ^ j + A % 18446744073709551616 ^ j
theorem dvV_low {A D j t : Nat} (h : t < j) : wd (dvV A D j) t = wd A t := by
  unfold wd
  rw [← dig_mod (j := j) h, ← dig_mod (n := A) (j := j) h, dvV, Nat.mul_comm, Nat.mul_add_mod, Nat.mod_mod]
theorem dvV_div (A D j : Nat) : dvV A D j / 18446744073709551616 ^ j = A / 18446744073709551616 ^ j % D := by
  have hP : 0 < 18446744073709551616 ^ j := Nat.pow_pos (by decide)
  rw [dvV, Nat.mul_comm, Nat.mul_add_div hP, Nat.div_eq_of_lt (Nat.mod_lt _ hP), Nat.add_zero]
theorem dvV_mid (A D i u : Nat) : wd (dvV A D i) (i + u) = wd (A / 18446744073709551616 ^ i % D) u := by
  rw [← dvV_div]
  unfold wd
  rw [dig_div, Nat.add_comm]
theorem dvV_step (A D i : Nat) : dvV A D (i + 1) / 18446744073709551616 ^ i = A / 18446744073709551616 ^ (i + 1) % D * 18446744073709551616 + wd A i := by
  have e := div_dig 18446744073709551616 (dvV A D (i + 1)) i
  rw [dvV_div] at e
  have h2 : dig 18446744073709551616 (dvV A D (i + 1)) i = wd A i := dvV_low (Nat.lt_succ_self i)
  rw [e, h2, Nat.mul_comm]
theorem dvV_lt {A D n j : Nat} (hD0 : 0 < D) (hD : D < 18446744073709551616 ^ n) : dvV A D j < 18446744073709551616 ^ (n + j) := by
  have hP : 0 < 18446744073709551616 ^ j := Nat.pow_pos (by decide)
  have h1 := Nat.mod_lt (A / 18446744073709551616 ^ j) hD0
  have h2 := Nat.mod_lt A hP
  have h3 : (A / 18446744073709551616 ^ j % D + 1) * 18446744073709551616 ^ j ≤ 18446744073709551616 ^ n * 18446744073709551616 ^ j := Nat.mul_le_mul_right _ (by omega)
  rw [Nat.succ_mul] at h3
  rw [Nat.pow_add]
  unfold dvV
  generalize A / 18446744073709551616 ^ j % D * 18446744073709551616 ^ j = x at *
  generalize 18446744073709551616 ^ n * 18446744073709551616 ^ j = y at *
  generalize A % 18446744073709551616 ^ j = z at *
  omega
theorem dvV_high {A D n j t : Nat} (hD0 : 0 < D) (hD : D < 18446744073709551616 ^ n) (ht : n + j ≤ t) : wd (dvV A D j) t = 0 := dig_high (Nat.lt_of_lt_of_le (dvV_lt hD0 hD) (Nat.pow_le_pow_right (by decide) ht))
theorem dvV_zero (A D : Nat) : dvV A D 0 = A % D := by simp [dvV, Nat.mod_one]
theorem dvV_start {A D j : Nat} (h : A / 18446744073709551616 ^ j < D) : dvV A D j = A := by
  rw [dvV, Nat.mod_eq_of_lt h, Nat.mul_comm]
  exact Nat.div_add_mod _ _
/-- The divisor with its highest bit set. -/
theorem norm_shift {b n : Nat} (h : wl b = n + 1) : nlen 2 (wd b n) ≤ 64 ∧ 0 < nlen 2 (wd b n) ∧ b * 2 ^ (64 - nlen 2 (wd b n)) < 18446744073709551616 ^ (n + 1) ∧ 9223372036854775808 ≤ wd (b * 2 ^ (64 - nlen 2 (wd b n))) n ∧ 0 < b := by
  have hb0 : b ≠ 0 := fun e => by subst e; rw [wl, nlen_zero] at h; omega
  have hlt : b < 18446744073709551616 ^ (n + 1) := by rw [← h]; exact lt_nlen (by decide) b
  have ht := dig_top (B := 18446744073709551616) (by decide) hb0
  have hk : nlen 18446744073709551616 b - 1 = n := by unfold wl at h; omega
  rw [hk] at ht
  have hP : 0 < 18446744073709551616 ^ n := Nat.pow_pos (by decide)
  obtain ⟨x, hx⟩ : ∃ x, wd b n = x := ⟨_, rfl⟩
  have hxd : b / 18446744073709551616 ^ n = x := by rw [← hx]; exact ht.1.symm
  have hx0 : x ≠ 0 := by rw [hxd] at ht; omega
  have hx64 : x < 2 ^ 64 := by rw [← hx]; exact wd_lt b n
  rw [hx]
  obtain ⟨k, hk2⟩ : ∃ k, nlen 2 x = k := ⟨_, rfl⟩
  have hk64 : k ≤ 64 := by rw [← hk2]; exact nlen_le_of_lt (by decide) hx64
  have hk0 : 0 < k := by rw [← hk2, nlen_pos (by decide) hx0]; omega
  have hxk : x < 2 ^ k := by rw [← hk2]; exact lt_nlen (by decide) x
  have hxk2 : 2 ^ (k - 1) ≤ x := by rw [← hk2]; exact nlen_le (by decide) x hx0
  rw [hk2]
  have hb1 : b < (x + 1) * 18446744073709551616 ^ n := by rw [← hxd, Nat.mul_comm]; exact Nat.lt_mul_div_succ b hP
  have hb2 : x * 18446744073709551616 ^ n ≤ b := by rw [← hxd]; exact Nat.div_mul_le_self _ _
  have hs0 : 0 < 2 ^ (64 - k) := Nat.pow_pos (by decide)
  have e64 : 2 ^ k * 2 ^ (64 - k) = 18446744073709551616 := by rw [← Nat.pow_add, show k + (64 - k) = 64 by omega]
  have e63 : 2 ^ (k - 1) * 2 ^ (64 - k) = 9223372036854775808 := by rw [← Nat.pow_add, show k - 1 + (64 - k) = 63 by omega]
  have h1 : b * 2 ^ (64 - k) < 18446744073709551616 ^ (n + 1) := by
    have : (x + 1) * 18446744073709551616 ^ n * 2 ^ (64 - k) ≤ 2 ^ k * 18446744073709551616 ^ n * 2 ^ (64 - k) := Nat.mul_le_mul_right _ (Nat.mul_le_mul_right _ hxk)
    rw [Nat.mul_right_comm (2 ^ k), e64, ← Nat.pow_succ'] at this
    exact Nat.lt_of_lt_of_le (Nat.mul_lt_mul_of_pos_right hb1 hs0) this
  refine ⟨hk64, hk0, h1, ?_, Nat.pos_of_ne_zero hb0⟩
  rw [← top_div h1]
  apply (Nat.le_div_iff_mul_le hP).2
  have : 2 ^ (k - 1) * 18446744073709551616 ^ n * 2 ^ (64 - k) ≤ b * 2 ^ (64 - k) := Nat.mul_le_mul_right _ (Nat.le_trans (Nat.mul_le_mul_right _ hxk2) hb2)
  rwa [Nat.mul_right_comm, e63] at this
theorem start_lt {a b n s j : Nat} (hb : 18446744073709551616 ^ n * 9223372036854775808 ≤ b * 2 ^ s) (hs : s ≤ 63) (ha : a < 18446744073709551616 ^ (j + n)) : a * 2 ^ s / 18446744073709551616 ^ j < b * 2 ^ s := by
  apply (Nat.div_lt_iff_lt_mul (Nat.pow_pos (by decide))).2
  have h1 : (2 : Nat) ^ s ≤ 9223372036854775808 := Nat.pow_le_pow_right (by decide) hs
  have h2 : a * 2 ^ s < 18446744073709551616 ^ (j + n) * 9223372036854775808 := Nat.lt_of_lt_of_le (Nat.mul_lt_mul_of_pos_right ha (Nat.pow_pos (by decide))) (Nat.mul_le_mul_left _ h1)
  have h3 := Nat.mul_le_mul_right (18446744073709551616 ^ j) hb
  rw [Nat.pow_add, Nat.mul_comm (18446744073709551616 ^ j), Nat.mul_right_comm] at h2
  exact Nat.lt_of_lt_of_le h2 h3
/-- Takeout's work, told of the whole rest. -/
theorem dv_words {w w' : World} {b A D i n N : Nat} (hN : N = n + 1) (hD0 : 0 < D) (hD : D < 18446744073709551616 ^ n) (h : WordsAt w b 0 (dvV A D (i + 1)) 9) (hn : WordsAt w' b i (A / 18446744073709551616 ^ i % D) N) (hk : ButR w w' b i N) : WordsAt w' b 0 (dvV A D i) 9 := fun t ht => by
  by_cases h1 : i ≤ t ∧ t < i + N
  · obtain ⟨u, rfl⟩ : ∃ u, t = i + u := ⟨t - i, by omega⟩
    rw [dvV_mid, Nat.zero_add]
    exact hn u (by omega)
  · have h2 : wd (dvV A D i) t = wd (dvV A D (i + 1)) t := by
      rcases Nat.lt_or_ge t i with h3 | h3
      · rw [dvV_low h3, dvV_low (by omega)]
      · rw [dvV_high hD0 hD (by omega), dvV_high hD0 hD (by omega)]
    have h4 := hk.1 ⟨b, 0 + t, none⟩ (fun e => h1 (by have := e.2; simp only [Nat.zero_add] at this; exact this))
    rw [h2]
    exact ⟨h4.1.trans (h t ht).1, h4.2.trans (h t ht).2⟩
end Go.Proofs.YtbcnpajdmlbieaaDoor
