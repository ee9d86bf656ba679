/-
  Stage 8: how ratios stand, as mathematics.
-/
import Derived.Test.YtbcnpajdmlbieaaDoorRtMathB
namespace Go.Proofs.YtbcnpajdmlbieaaDoor
open Go.RowKit Go.Sort
set_option linter.unusedSimpArgs false

theorem cmpI_neg (x y : Int) : cmpI x y = -cmpI y x := by
  unfold cmpI
  split <;> split <;> (try split) <;> omega
theorem cmpI_range (x y : Int) : -1 ≤ cmpI x y ∧ cmpI x y ≤ 1 := by
  unfold cmpI
  split
  · omega
  · split <;> omega
theorem cmpI_sub (x y : Int) : cmpI (x - y) 0 = cmpI x y := by
  unfold cmpI
  split <;> split <;> (try split) <;> (try split) <;> omega
theorem cmpI_scale (x : Int) (g : Nat) (hg : 0 < g) : cmpI (x * g) 0 = cmpI x 0 := by
  have hgi : (0 : Int) < g := by omega
  unfold cmpI
  by_cases h1 : x < 0
  · rw [if_pos h1, if_pos (Int.mul_neg_of_neg_of_pos h1 hgi)]
  · rw [if_neg h1]
    by_cases h2 : 0 < x
    · have := Int.mul_pos h2 hgi
      rw [if_pos h2, if_neg (by omega), if_pos this]
    · have : x = 0 := by omega
      subst this
      simp
section
variable {s : Bool} {n : Nat} {t : Bool} {d : Nat} {s' : Bool} {n' : Nat} {t' : Bool} {d' : Nat}
theorem rcmpK_zero : rcmpK s n t d s' n' t' d' = 0 ↔ vld s n t d = true ∧ vld s' n' t' d' = true ∧ Fits (n * d') ∧ Fits (n' * d) := by
  unfold rcmpK crK crK1
  rw [kept_zero, kept_zero, kept_zero, chk_zero, chk_zero, resK_zero, resK_zero]
  constructor
  · rintro ⟨⟨⟨h1, h2⟩, h3⟩, h4⟩; exact ⟨h1, h2, h3, h4⟩
  · rintro ⟨h1, h2, h3, h4⟩; exact ⟨⟨⟨h1, h2⟩, h3⟩, h4⟩
theorem rc_sym : rcmpK s n t d s' n' t' d' = 0 ↔ rcmpK s' n' t' d' s n t d = 0 := by
  rw [rcmpK_zero, rcmpK_zero]
  constructor
  · rintro ⟨h1, h2, h3, h4⟩; exact ⟨h2, h1, h4, h3⟩
  · rintro ⟨h1, h2, h3, h4⟩; exact ⟨h2, h1, h4, h3⟩
theorem rc_val (h : rcmpK s n t d s' n' t' d' = 0) : rcmpZ s n t d s' n' t' d' = cmpI (iv s n * d') (iv s' n' * d) := by
  obtain ⟨v1, v2, f1, f2⟩ := rcmpK_zero.1 h
  obtain ⟨_, ht, _, _⟩ := vld_spec v1
  obtain ⟨_, ht', _, _⟩ := vld_spec v2
  have hk : kept (chk s n t d) (chk s' n' t' d') = 0 := by rw [kept_zero]; exact ⟨chk_zero.2 v1, chk_zero.2 v2⟩
  unfold rcmpZ
  rw [if_pos h, hk, cmpS_iv, (cr_vals s s' t t' f1 f2).1, (cr_vals s s' t t' f1 f2).2, ht, ht', iv_ff, iv_ff, iv_nat, iv_nat]
theorem rc_none (h : rcmpK s n t d s' n' t' d' ≠ 0) : rcmpZ s n t d s' n' t' d' = 0 := by
  unfold rcmpZ
  rw [if_neg h]
theorem rc_neg : rcmpZ s n t d s' n' t' d' = -rcmpZ s' n' t' d' s n t d := by
  by_cases h : rcmpK s n t d s' n' t' d' = 0
  · rw [rc_val h, rc_val (rc_sym.1 h)]
    exact cmpI_neg _ _
  · rw [rc_none h, rc_none (fun e => h (rc_sym.2 e))]
    rfl
theorem rc_range : -1 ≤ rcmpZ s n t d s' n' t' d' ∧ rcmpZ s n t d s' n' t' d' ≤ 1 := by
  by_cases h : rcmpK s n t d s' n' t' d' = 0
  · rw [rc_val h]; exact cmpI_range _ _
  · rw [rc_none h]; omega
/-- Ratios stand as their difference says. -/
theorem mi_cmp (h : rcmpK s n t d s' n' t' d' = 0) (h2 : miK s n t d s' n' t' d' = 0) : cmpS (miS s n t d s' n' t' d') (miN s n t d s' n' t' d') false 0 = rcmpZ s n t d s' n' t' d' := by
  obtain ⟨_, _, _, _, hl⟩ := mi_ok h2
  obtain ⟨_, g, hg, hX, _⟩ := hl
  rw [rc_val h, cmpS_iv, iv_zero, ← cmpI_sub (iv s n * d'), ← hX, cmpI_scale _ _ hg]
/-- A ratio less its whole part is less than 1. -/
theorem tr_less (hv : vld s n t d = true) (h2 : miK s n t d (sgn s (n / d)) (n / d) false 1 = 0) :
    rcmpK false (miN s n t d (sgn s (n / d)) (n / d) false 1) false (miD s n t d (sgn s (n / d)) (n / d) false 1) false 1 false 1 = 0 ∧ rcmpZ false (miN s n t d (sgn s (n / d)) (n / d) false 1) false (miD s n t d (sgn s (n / d)) (n / d) false 1) false 1 false 1 = -1 := by
  obtain ⟨_, _, _, _, hl⟩ := mi_ok h2
  obtain ⟨f1, f2⟩ := mi_fits s n t d (sgn s (n / d)) (n / d) false 1
  generalize miS s n t d (sgn s (n / d)) (n / d) false 1 = s3 at *
  generalize miN s n t d (sgn s (n / d)) (n / d) false 1 = n3 at *
  generalize miD s n t d (sgn s (n / d)) (n / d) false 1 = d3 at *
  obtain ⟨v3, g, hg, hX, hY⟩ := hl
  obtain ⟨_, _, hd3, hc3⟩ := vld_spec v3
  have v4 : vld false n3 false d3 = true := vld_mk rfl hd3 hc3
  have hk : rcmpK false n3 false d3 false 1 false 1 = 0 := rcmpK_zero.2 ⟨v4, rfl, by rwa [Nat.mul_one], by rwa [Nat.one_mul]⟩
  refine ⟨hk, ?_⟩
  have hn : n3 * g = n % d := by
    have h1 : iv s3 n3 * g = iv s (n % d) := by
      have e := Nat.div_add_mod n d
      have e2 : n = n / d * d + n % d := by rw [Nat.mul_comm]; exact e.symm
      rw [hX, iv_sgn]
      have h3 : iv s n = iv s (n / d) * d + iv s (n % d) := by
        have h5 : iv s (n / d * d + n % d) = iv s (n / d * d) + iv s (n % d) := by cases s <;> simp [iv] <;> omega
        rw [← iv_nat, ← h5, ← e2]
      rw [h3]
      simp
      omega
    have := congrArg Int.natAbs h1
    simpa [Int.natAbs_mul, iv_abs] using this
  have hdg : d3 * g = d := by rw [hY, Nat.mul_one]
  obtain ⟨_, _, hd, _⟩ := vld_spec hv
  have hlt : n3 < d3 := by
    have := Nat.mod_lt n hd
    rw [← hn] at this
    rw [← hdg] at this
    exact Nat.lt_of_mul_lt_mul_right this
  rw [rc_val hk]
  unfold cmpI
  rw [if_pos]
  simp [iv]
  omega
theorem whole_mk (z : Bool) (q : Nat) : mkS (sgn z q) q false 1 = sgn z q ∧ mkN q 1 = q ∧ mkD q 1 = 1 ∧ mkK 1 = 0 := by
  refine ⟨?_, ?_, ?_, rfl⟩
  · unfold mkS
    rw [if_neg (by decide), Nat.gcd_one_right, Nat.div_one]
    have : (sgn z q != false) = sgn z q := by cases sgn z q <;> rfl
    rw [this, sgn_sgn]
  · unfold mkN
    rw [if_neg (by decide), Nat.gcd_one_right, Nat.div_one]
  · unfold mkD
    rw [if_neg (by decide), Nat.gcd_one_right]
end
end Go.Proofs.YtbcnpajdmlbieaaDoor
