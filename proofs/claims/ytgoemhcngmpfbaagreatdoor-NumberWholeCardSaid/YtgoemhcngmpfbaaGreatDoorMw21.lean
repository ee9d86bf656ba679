/-
  Stage 8: what the laws say, as mathematics: a sum less one part, a quotient times the divisor, how differences stand.
-/
import Derived.Test.YtgoemhcngmpfbaaGreatDoorMw20
import Derived.Test.YtgoemhcngmpfbaaGreatDoorMw18

namespace Go.Proofs.YtgoemhcngmpfbaaGreatDoor
open Go.RowKit Go.Sort
set_option linter.unusedSimpArgs false

theorem key_add {A B d d' N1 d1 g : Int} (hg : g ≠ 0) (h1 : N1 * g = A * d' + B * d) (h2 : d1 * g = d * d') : (N1 * d' - B * d1) * d = A * (d1 * d') := by
  apply Int.eq_of_mul_eq_mul_right hg
  have e1 : (N1 * d' - B * d1) * d * g = N1 * g * (d' * d) - B * (d1 * g) * d := by
    rw [Int.sub_mul, Int.sub_mul]
    simp only [Int.mul_assoc, Int.mul_comm, Int.mul_left_comm]
  have e2 : A * (d1 * d') * g = A * (d1 * g) * d' := by
    simp only [Int.mul_assoc, Int.mul_comm, Int.mul_left_comm]
  rw [e1, e2, h1, h2]
  have e3 : (A * d' + B * d) * (d' * d) = A * (d * d') * d' + B * (d * d') * d := by
    rw [Int.add_mul]
    simp only [Int.mul_assoc, Int.mul_comm, Int.mul_left_comm]
  rw [e3]
  omega
theorem key_quo {A n' d d' N D g u : Int} (hg : g ≠ 0) (hu : u * u = 1) (h1 : N * g = A * d' * u) (h2 : D * g = d * n') : N * (n' * u) * d = A * (D * d') := by
  apply Int.eq_of_mul_eq_mul_right hg
  have e1 : N * (n' * u) * d * g = N * g * (n' * u * d) := by simp only [Int.mul_assoc, Int.mul_comm, Int.mul_left_comm]
  have e2 : A * (D * d') * g = A * (D * g) * d' := by simp only [Int.mul_assoc, Int.mul_comm, Int.mul_left_comm]
  rw [e1, e2, h1, h2]
  have e3 : A * d' * u * (n' * u * d) = A * (d * n') * d' * (u * u) := by simp only [Int.mul_assoc, Int.mul_comm, Int.mul_left_comm]
  rw [e3, hu, Int.mul_one]
section
variable (s : Bool) (n : Nat) (t : Bool) (d : Nat) (s' : Bool) (n' : Nat) (t' : Bool) (d' : Nat)
/-- The first error of two ratios. -/
def k0 : Nat := kept (chk s n t d) (chk s' n' t' d')
def plS : Bool := oS (crK (k0 s n t d s' n' t' d') n d n' d') (resS (addZ s n t d s' n' t' d' (k0 s n t d s' n' t' d')) (addR s n t d s' n' t' d' (k0 s n t d s' n' t' d'))) (resN (addR s n t d s' n' t' d' (k0 s n t d s' n' t' d'))) (resK (addR s n t d s' n' t' d' (k0 s n t d s' n' t' d'))) (resS (t != t') (d * d')) (resN (d * d')) (resK (d * d'))
def plN : Nat := oN (crK (k0 s n t d s' n' t' d') n d n' d') (resN (addR s n t d s' n' t' d' (k0 s n t d s' n' t' d'))) (resK (addR s n t d s' n' t' d' (k0 s n t d s' n' t' d'))) (resN (d * d')) (resK (d * d'))
def plD : Nat := oD (crK (k0 s n t d s' n' t' d') n d n' d') (resN (addR s n t d s' n' t' d' (k0 s n t d s' n' t' d'))) (resK (addR s n t d s' n' t' d' (k0 s n t d s' n' t' d'))) (resN (d * d')) (resK (d * d'))
def plK : Nat := adK s n t d s' n' t' d' (addR s n t d s' n' t' d' (k0 s n t d s' n' t' d'))
theorem addV_eq : addV s n t d s' n' t' d' = .tuple #[ratV (plS s n t d s' n' t' d') (plN s n t d s' n' t' d') false (plD s n t d s' n' t' d'), errV (plK s n t d s' n' t' d')] := by
  unfold addV plS plN plD plK adK k0
  exact opV_parts _ _ _ _ _ _ _
def miS : Bool := oS (crK (k0 s n t d s' n' t' d') n d n' d') (resS (subZ s n t d s' n' t' d' (k0 s n t d s' n' t' d')) (subR s n t d s' n' t' d' (k0 s n t d s' n' t' d'))) (resN (subR s n t d s' n' t' d' (k0 s n t d s' n' t' d'))) (resK (subR s n t d s' n' t' d' (k0 s n t d s' n' t' d'))) (resS (t != t') (d * d')) (resN (d * d')) (resK (d * d'))
def miN : Nat := oN (crK (k0 s n t d s' n' t' d') n d n' d') (resN (subR s n t d s' n' t' d' (k0 s n t d s' n' t' d'))) (resK (subR s n t d s' n' t' d' (k0 s n t d s' n' t' d'))) (resN (d * d')) (resK (d * d'))
def miD : Nat := oD (crK (k0 s n t d s' n' t' d') n d n' d') (resN (subR s n t d s' n' t' d' (k0 s n t d s' n' t' d'))) (resK (subR s n t d s' n' t' d' (k0 s n t d s' n' t' d'))) (resN (d * d')) (resK (d * d'))
def miK : Nat := adK s n t d s' n' t' d' (subR s n t d s' n' t' d' (k0 s n t d s' n' t' d'))
theorem subV_eq : subV s n t d s' n' t' d' = .tuple #[ratV (miS s n t d s' n' t' d') (miN s n t d s' n' t' d') false (miD s n t d s' n' t' d'), errV (miK s n t d s' n' t' d')] := by
  unfold subV miS miN miD miK adK k0
  exact opV_parts _ _ _ _ _ _ _
def muS : Bool := oS (k0 s n t d s' n' t' d') (resS (s != s') (n * n')) (resN (n * n')) (resK (n * n')) (resS (t != t') (d * d')) (resN (d * d')) (resK (d * d'))
def muN : Nat := oN (k0 s n t d s' n' t' d') (resN (n * n')) (resK (n * n')) (resN (d * d')) (resK (d * d'))
def muD : Nat := oD (k0 s n t d s' n' t' d') (resN (n * n')) (resK (n * n')) (resN (d * d')) (resK (d * d'))
def muK : Nat := oK (k0 s n t d s' n' t' d') (resK (n * n')) (resN (d * d')) (resK (d * d'))
theorem mulV_eq : mulV s n t d s' n' t' d' = .tuple #[ratV (muS s n t d s' n' t' d') (muN s n t d s' n' t' d') false (muD s n t d s' n' t' d'), errV (muK s n t d s' n' t' d')] := by
  unfold mulV muS muN muD muK k0
  exact opV_parts _ _ _ _ _ _ _
def quS : Bool := oS (kept (k0 s n t d s' n' t' d') (if n' = 0 then 10 else 0)) (resS (s != t') (n * d')) (resN (n * d')) (resK (n * d')) (resS (t != s') (d * n')) (resN (d * n')) (resK (d * n'))
def quN : Nat := oN (kept (k0 s n t d s' n' t' d') (if n' = 0 then 10 else 0)) (resN (n * d')) (resK (n * d')) (resN (d * n')) (resK (d * n'))
def quD : Nat := oD (kept (k0 s n t d s' n' t' d') (if n' = 0 then 10 else 0)) (resN (n * d')) (resK (n * d')) (resN (d * n')) (resK (d * n'))
def quK : Nat := oK (kept (k0 s n t d s' n' t' d') (if n' = 0 then 10 else 0)) (resK (n * d')) (resN (d * n')) (resK (d * n'))
theorem quoV_eq : quoV s n t d s' n' t' d' = .tuple #[ratV (quS s n t d s' n' t' d') (quN s n t d s' n' t' d') false (quD s n t d s' n' t' d'), errV (quK s n t d s' n' t' d')] := by
  unfold quoV quS quN quD quK k0
  exact opV_parts _ _ _ _ _ _ _
theorem pl_fits : Fits (plN s n t d s' n' t' d') ∧ Fits (plD s n t d s' n' t' d') := ⟨oN_fits _ _ _ _ (resN_fits _), oD_fits _ _ _ _ (resN_fits _)⟩
theorem mi_fits : Fits (miN s n t d s' n' t' d') ∧ Fits (miD s n t d s' n' t' d') := ⟨oN_fits _ _ _ _ (resN_fits _), oD_fits _ _ _ _ (resN_fits _)⟩
theorem mu_fits : Fits (muN s n t d s' n' t' d') ∧ Fits (muD s n t d s' n' t' d') := ⟨oN_fits _ _ _ _ (resN_fits _), oD_fits _ _ _ _ (resN_fits _)⟩
theorem qu_fits : Fits (quN s n t d s' n' t' d') ∧ Fits (quD s n t d s' n' t' d') := ⟨oN_fits _ _ _ _ (resN_fits _), oD_fits _ _ _ _ (resN_fits _)⟩
end
section
variable {s : Bool} {n : Nat} {t : Bool} {d : Nat} {s' : Bool} {n' : Nat} {t' : Bool} {d' : Nat}
/-- A sum and a difference without an error. -/
theorem pl_ok (h : plK s n t d s' n' t' d' = 0) : vld s n t d = true ∧ vld s' n' t' d' = true ∧ IsLow (iv s n * d' + iv s' n' * d) (d * d') (plS s n t d s' n' t' d') (plN s n t d s' n' t' d') (plD s n t d s' n' t' d') := by
  obtain ⟨v1, v2, f1, f2, hl⟩ := sum_ok (Z := addZ s n t d s' n' t' d' (k0 s n t d s' n' t' d')) h
  obtain ⟨_, ht, _, _⟩ := vld_spec v1
  obtain ⟨_, ht', _, _⟩ := vld_spec v2
  refine ⟨v1, v2, ?_⟩
  have hk : k0 s n t d s' n' t' d' = 0 := by unfold k0; rw [kept_zero]; exact ⟨chk_zero.2 v1, chk_zero.2 v2⟩
  have hx : iv (addZ s n t d s' n' t' d' (k0 s n t d s' n' t' d')) (addR s n t d s' n' t' d' (k0 s n t d s' n' t' d')) = iv s n * d' + iv s' n' * d := by
    unfold addZ addR
    rw [hk, iv_add, (cr_vals s s' t t' f1 f2).1, (cr_vals s s' t t' f1 f2).2, ht, ht', iv_ff, iv_ff, iv_nat, iv_nat]
  rw [hx] at hl
  exact hl
theorem mi_ok (h : miK s n t d s' n' t' d' = 0) : vld s n t d = true ∧ vld s' n' t' d' = true ∧ Fits (n * d') ∧ Fits (n' * d) ∧ IsLow (iv s n * d' - iv s' n' * d) (d * d') (miS s n t d s' n' t' d') (miN s n t d s' n' t' d') (miD s n t d s' n' t' d') := by
  obtain ⟨v1, v2, f1, f2, hl⟩ := sum_ok (Z := subZ s n t d s' n' t' d' (k0 s n t d s' n' t' d')) h
  obtain ⟨_, ht, _, _⟩ := vld_spec v1
  obtain ⟨_, ht', _, _⟩ := vld_spec v2
  refine ⟨v1, v2, f1, f2, ?_⟩
  have hk : k0 s n t d s' n' t' d' = 0 := by unfold k0; rw [kept_zero]; exact ⟨chk_zero.2 v1, chk_zero.2 v2⟩
  have hx : iv (subZ s n t d s' n' t' d' (k0 s n t d s' n' t' d')) (subR s n t d s' n' t' d' (k0 s n t d s' n' t' d')) = iv s n * d' - iv s' n' * d := by
    unfold subZ subR
    rw [hk, iv_add, iv_sgn, iv_not, (cr_vals s s' t t' f1 f2).1, (cr_vals s s' t t' f1 f2).2, ht, ht', iv_ff, iv_ff, iv_nat, iv_nat]
    omega
  rw [hx] at hl
  exact hl
/-- A sum less one part is the other one. -/
theorem pl_mi (h : plK s n t d s' n' t' d' = 0) (h2 : miK (plS s n t d s' n' t' d') (plN s n t d s' n' t' d') false (plD s n t d s' n' t' d') s' n' t' d' = 0) :
    t = false ∧ miS (plS s n t d s' n' t' d') (plN s n t d s' n' t' d') false (plD s n t d s' n' t' d') s' n' t' d' = s ∧ miN (plS s n t d s' n' t' d') (plN s n t d s' n' t' d') false (plD s n t d s' n' t' d') s' n' t' d' = n ∧ miD (plS s n t d s' n' t' d') (plN s n t d s' n' t' d') false (plD s n t d s' n' t' d') s' n' t' d' = d := by
  obtain ⟨v1, v2, hl⟩ := pl_ok h
  obtain ⟨_, _, _, _, hm⟩ := mi_ok h2
  have ht := (vld_spec v1).2.1
  subst ht
  refine ⟨rfl, ?_⟩
  generalize plS s n false d s' n' t' d' = s1 at *
  generalize plN s n false d s' n' t' d' = n1 at *
  generalize plD s n false d s' n' t' d' = d1 at *
  obtain ⟨_, g, hg, hX, hY⟩ := hl
  refine hm.uniq v1 ?_
  rw [Int.natCast_mul]
  refine key_add (g := g) (by omega) hX ?_
  rw [← Int.natCast_mul, ← Int.natCast_mul, hY]
/-- A product and a quotient without an error. -/
theorem mu_ok (h : muK s n t d s' n' t' d' = 0) : vld s n t d = true ∧ vld s' n' t' d' = true ∧ IsLow (iv s n * iv s' n') (d * d') (muS s n t d s' n' t' d') (muN s n t d s' n' t' d') (muD s n t d s' n' t' d') := by
  unfold muK at h
  obtain ⟨h1, h2, h3, _, hl⟩ := op_ok (r := resN (n * n')) (z := resS (s != s') (n * n')) (z' := resS (t != t') (d * d')) h
  obtain ⟨h7, h8⟩ := chk_both h1
  have f1 := resK_zero.1 h2
  have f2 := resK_zero.1 h3
  have v1 := chk_zero.1 h7
  have v2 := chk_zero.1 h8
  obtain ⟨_, ht, _, _⟩ := vld_spec v1
  obtain ⟨_, ht', _, _⟩ := vld_spec v2
  refine ⟨v1, v2, ?_⟩
  have e1 : iv (resS (s != s') (n * n') != resS (t != t') (d * d')) (resN (n * n')) = iv s n * iv s' n' := by
    rw [ht, ht', resN_of f1, resS_of _ f1, resS_of _ f2]
    have : sgn (false != false) (d * d') = false := rfl
    rw [this, iv_ff, iv_sgn, iv_mul]
  rw [e1] at hl
  have e2 : resN (d * d') = d * d' := resN_of f2
  have hl2 := hl
  rw [e2] at hl2
  unfold muS muN muD
  rwa [e2]
theorem qu_ok (h : quK s n t d s' n' t' d' = 0) : vld s n t d = true ∧ vld s' n' t' d' = true ∧ 0 < n' ∧ IsLow (iv (s != s') (n * d')) (d * n') (quS s n t d s' n' t' d') (quN s n t d s' n' t' d') (quD s n t d s' n' t' d') := by
  unfold quK at h
  obtain ⟨h1, h2, h3, hr, hl⟩ := op_ok (r := resN (n * d')) (z := resS (s != t') (n * d')) (z' := resS (t != s') (d * n')) h
  obtain ⟨h0, h4⟩ := kept_zero.1 h1
  obtain ⟨h7, h8⟩ := chk_both h0
  have hn' : n' ≠ 0 := by
    intro e
    rw [if_pos e] at h4
    cases h4
  have f1 := resK_zero.1 h2
  have f2 := resK_zero.1 h3
  have v1 := chk_zero.1 h7
  have v2 := chk_zero.1 h8
  obtain ⟨_, ht, hd0, _⟩ := vld_spec v1
  obtain ⟨_, ht', _, _⟩ := vld_spec v2
  refine ⟨v1, v2, by omega, ?_⟩
  have hdn : d * n' ≠ 0 := by
    intro e
    rcases Nat.mul_eq_zero.1 e with h | h <;> omega
  have e1 : iv (resS (s != t') (n * d') != resS (t != s') (d * n')) (resN (n * d')) = iv (s != s') (n * d') := by
    rw [ht, ht', resN_of f1, resS_of _ f1, resS_of _ f2, sgn_pos _ hdn]
    by_cases hz : n * d' = 0
    · rw [hz, iv_zero, iv_zero]
    · rw [sgn_pos _ hz]
      cases s <;> cases s' <;> rfl
  rw [e1] at hl
  have e2 : resN (d * n') = d * n' := resN_of f2
  have hl2 := hl
  rw [e2] at hl2
  unfold quS quN quD
  rwa [e2]
/-- A quotient times the divisor is what was parted. -/
theorem qu_mu (h : quK s n t d s' n' t' d' = 0) (h2 : muK (quS s n t d s' n' t' d') (quN s n t d s' n' t' d') false (quD s n t d s' n' t' d') s' n' t' d' = 0) :
    t = false ∧ muS (quS s n t d s' n' t' d') (quN s n t d s' n' t' d') false (quD s n t d s' n' t' d') s' n' t' d' = s ∧ muN (quS s n t d s' n' t' d') (quN s n t d s' n' t' d') false (quD s n t d s' n' t' d') s' n' t' d' = n ∧ muD (quS s n t d s' n' t' d') (quN s n t d s' n' t' d') false (quD s n t d s' n' t' d') s' n' t' d' = d := by
  obtain ⟨v1, v2, hn', hl⟩ := qu_ok h
  obtain ⟨_, _, hm⟩ := mu_ok h2
  have ht := (vld_spec v1).2.1
  subst ht
  refine ⟨rfl, ?_⟩
  generalize quS s n false d s' n' t' d' = s1 at *
  generalize quN s n false d s' n' t' d' = n1 at *
  generalize quD s n false d s' n' t' d' = d1 at *
  obtain ⟨_, g, hg, hX, hY⟩ := hl
  refine hm.uniq v1 ?_
  rw [Int.natCast_mul]
  obtain ⟨u, hu, h3, h4⟩ : ∃ u : Int, u * u = 1 ∧ iv s' n' = n' * u ∧ iv (s != s') (n * d') = iv s n * d' * u := by
    cases s' with
    | false => exact ⟨1, rfl, by simp [iv], by rw [iv_ff, iv_nat, Int.mul_one]⟩
    | true =>
      refine ⟨-1, rfl, by simp [iv], ?_⟩
      have : (s != true) = !s := by cases s <;> rfl
      rw [this, iv_not, iv_nat]
      omega
  rw [h3]
  refine key_quo (g := g) (by omega) hu (by rw [hX, h4]) ?_
  rw [← Int.natCast_mul, ← Int.natCast_mul, hY]
/-- Products do not hang on the order. -/
theorem k0_comm : k0 s n t d s' n' t' d' = k0 s' n' t' d' s n t d := by
  unfold k0
  rcases chk_le s n t d with h | h <;> rcases chk_le s' n' t' d' with h' | h' <;> rw [h, h'] <;> rfl
theorem mu_comm : muS s n t d s' n' t' d' = muS s' n' t' d' s n t d ∧ muN s n t d s' n' t' d' = muN s' n' t' d' s n t d ∧ muD s n t d s' n' t' d' = muD s' n' t' d' s n t d ∧ muK s n t d s' n' t' d' = muK s' n' t' d' s n t d := by
  have e1 : (s != s') = (s' != s) := by cases s <;> cases s' <;> rfl
  have e2 : (t != t') = (t' != t) := by cases t <;> cases t' <;> rfl
  unfold muS muN muD muK
  rw [k0_comm (s := s), Nat.mul_comm n n', Nat.mul_comm d d', e1, e2]
  exact ⟨rfl, rfl, rfl, rfl⟩
end
end Go.Proofs.YtgoemhcngmpfbaaGreatDoor

/-
  Stage 8: how ratios stand, as mathematics.
-/
namespace Go.Proofs.YtgoemhcngmpfbaaGreatDoor
open Go.RowKit Go.Sort
set_option linter.unusedSimpArgs false

theorem cmpI_neg (x y : Int) : cmpI x y = -cmpI y x := by
  unfold cmpI
  split <;> split <;> (try split) <;> omega
theorem cmpI_range (x y : Int) : -1 ≤ cmpI x y ∧ cmpI x y ≤ 1 := by
  unfold cmpI
  split
  · omega
  · split <;> omega
theorem cmpI_sub (x y : Int) : cmpI (x - y) 0 = cmpI x y := by
  unfold cmpI
  split <;> split <;> (try split) <;> (try split) <;> omega
theorem cmpI_scale (x : Int) (g : Nat) (hg : 0 < g) : cmpI (x * g) 0 = cmpI x 0 := by
  have hgi : (0 : Int) < g := by omega
  unfold cmpI
  by_cases h1 : x < 0
  · rw [if_pos h1, if_pos (Int.mul_neg_of_neg_of_pos h1 hgi)]
  · rw [if_neg h1]
    by_cases h2 : 0 < x
    · have := Int.mul_pos h2 hgi
      rw [if_pos h2, if_neg (by omega), if_pos this]
    · have : x = 0 := by omega
      subst this
      simp
section
variable {s : Bool} {n : Nat} {t : Bool} {d : Nat} {s' : Bool} {n' : Nat} {t' : Bool} {d' : Nat}
theorem rcmpK_zero : rcmpK s n t d s' n' t' d' = 0 ↔ vld s n t d = true ∧ vld s' n' t' d' = true ∧ Fits (n * d') ∧ Fits (n' * d) := by
  unfold rcmpK crK crK1
  rw [kept_zero, kept_zero, kept_zero, chk_zero, chk_zero, resK_zero, resK_zero]
  constructor
  · rintro ⟨⟨⟨h1, h2⟩, h3⟩, h4⟩; exact ⟨h1, h2, h3, h4⟩
  · rintro ⟨h1, h2, h3, h4⟩; exact ⟨⟨⟨h1, h2⟩, h3⟩, h4⟩
theorem rc_sym : rcmpK s n t d s' n' t' d' = 0 ↔ rcmpK s' n' t' d' s n t d = 0 := by
  rw [rcmpK_zero, rcmpK_zero]
  constructor
  · rintro ⟨h1, h2, h3, h4⟩; exact ⟨h2, h1, h4, h3⟩
  · rintro ⟨h1, h2, h3, h4⟩; exact ⟨h2, h1, h4, h3⟩
theorem rc_val (h : rcmpK s n t d s' n' t' d' = 0) : rcmpZ s n t d s' n' t' d' = cmpI (iv s n * d') (iv s' n' * d) := by
  obtain ⟨v1, v2, f1, f2⟩ := rcmpK_zero.1 h
  obtain ⟨_, ht, _, _⟩ := vld_spec v1
  obtain ⟨_, ht', _, _⟩ := vld_spec v2
  have hk : kept (chk s n t d) (chk s' n' t' d') = 0 := by rw [kept_zero]; exact ⟨chk_zero.2 v1, chk_zero.2 v2⟩
  unfold rcmpZ
  rw [if_pos h, hk, cmpS_iv, (cr_vals s s' t t' f1 f2).1, (cr_vals s s' t t' f1 f2).2, ht, ht', iv_ff, iv_ff, iv_nat, iv_nat]
theorem rc_none (h : rcmpK s n t d s' n' t' d' ≠ 0) : rcmpZ s n t d s' n' t' d' = 0 := by
  unfold rcmpZ
  rw [if_neg h]
theorem rc_neg : rcmpZ s n t d s' n' t' d' = -rcmpZ s' n' t' d' s n t d := by
  by_cases h : rcmpK s n t d s' n' t' d' = 0
  · rw [rc_val h, rc_val (rc_sym.1 h)]
    exact cmpI_neg _ _
  · rw [rc_none h, rc_none (fun e => h (rc_sym.2 e))]
    rfl
theorem rc_range : -1 ≤ rcmpZ s n t d s' n' t' d' ∧ rcmpZ s n t d s' n' t' d' ≤ 1 := by
  by_cases h : rcmpK s n t d s' n' t' d' = 0
  · rw [rc_val h]; exact cmpI_range _ _
  · rw [rc_none h]; omega
/-- Ratios stand as their difference says. -/
theorem mi_cmp (h : rcmpK s n t d s' n' t' d' = 0) (h2 : miK s n t d s' n' t' d' = 0) : cmpS (miS s n t d s' n' t' d') (miN s n t d s' n' t' d') false 0 = rcmpZ s n t d s' n' t' d' := by
  obtain ⟨_, _, _, _, hl⟩ := mi_ok h2
  obtain ⟨_, g, hg, hX, _⟩ := hl
  rw [rc_val h, cmpS_iv, iv_zero, ← cmpI_sub (iv s n * d'), ← hX, cmpI_scale _ _ hg]
/-- A ratio less its whole part is less than 1. -/
theorem tr_less (hv : vld s n t d = true) (h2 : miK s n t d (sgn s (n / d)) (n / d) false 1 = 0) :
    rcmpK false (miN s n t d (sgn s (n / d)) (n / d) false 1) false (miD s n t d (sgn s (n / d)) (n / d) false 1) false 1 false 1 = 0 ∧ rcmpZ false (miN s n t d (sgn s (n / d)) (n / d) false 1) false (miD s n t d (sgn s (n / d)) (n / d) false 1) false 1 false 1 = -1 := by
  obtain ⟨_, _, _, _, hl⟩ := mi_ok h2
  obtain ⟨f1, f2⟩ := mi_fits s n t d (sgn s (n / d)) (n / d) false 1
  generalize miS s n t d (sgn s (n / d)) (n / d) false 1 = s3 at *
  generalize miN s n t d (sgn s (n / d)) (n / d) false 1 = n3 at *
  generalize miD s n t d (sgn s (n / d)) (n / d) false 1 = d3 at *
  obtain ⟨v3, g, hg, hX, hY⟩ := hl
  obtain ⟨_, _, hd3, hc3⟩ := vld_spec v3
  have v4 : vld false n3 false d3 = true := vld_mk rfl hd3 hc3
  have hk : rcmpK false n3 false d3 false 1 false 1 = 0 := rcmpK_zero.2 ⟨v4, rfl, by rwa [Nat.mul_one], by rwa [Nat.one_mul]⟩
  refine ⟨hk, ?_⟩
  have hn : n3 * g = n % d := by
    have h1 : iv s3 n3 * g = iv s (n % d) := by
      have e := Nat.div_add_mod n d
      have e2 : n = n / d * d + n % d := by rw [Nat.mul_comm]; exact e.symm
      rw [hX, iv_sgn]
      have h3 : iv s n = iv s (n / d) * d + iv s (n % d) := by
        have h5 : iv s (n / d * d + n % d) = iv s (n / d * d) + iv s (n % d) := by cases s <;> simp [iv] <;> omega
        rw [← iv_nat, ← h5, ← e2]
      rw [h3]
      simp
      omega
    have := congrArg Int.natAbs h1
    simpa [Int.natAbs_mul, iv_abs] using this
  have hdg : d3 * g = d := by rw [hY, Nat.mul_one]
  obtain ⟨_, _, hd, _⟩ := vld_spec hv
  have hlt : n3 < d3 := by
    have := Nat.mod_lt n hd
    rw [← hn] at this
    rw [← hdg] at this
    exact Nat.lt_of_mul_lt_mul_right this
  rw [rc_val hk]
  unfold cmpI
  rw [if_pos]
  simp [iv]
  omega
theorem whole_mk (z : Bool) (q : Nat) : mkS (sgn z q) q false 1 = sgn z q ∧ mkN q 1 = q ∧ mkD q 1 = 1 ∧ mkK 1 = 0 := by
  refine ⟨?_, ?_, ?_, rfl⟩
  · unfold mkS
    rw [if_neg (by decide), Nat.gcd_one_right, Nat.div_one]
    have : (sgn z q != false) = sgn z q := by cases sgn z q <;> rfl
    rw [this, sgn_sgn]
  · unfold mkN
    rw [if_neg (by decide), Nat.gcd_one_right, Nat.div_one]
  · unfold mkD
    rw [if_neg (by decide), Nat.gcd_one_right]
end
end Go.Proofs.YtgoemhcngmpfbaaGreatDoor

/-
  Stage 8: errors against nil; what the laws' walks share.
-/
namespace Go.Proofs.YtgoemhcngmpfbaaGreatDoor
open Go.RowKit Go.Sort
set_option linter.unusedSimpArgs false

theorem fits_small (k : Nat) (hk : k < 100) : Fits k := Nat.lt_of_lt_of_le hk (Nat.le_trans (show 100 ≤ 18446744073709551616 by decide) (Nat.le_self_pow (by decide) _))
theorem eq_nil (k : Nat) (w : World) : (binOp .eql 29 (errV k) .nilIface).run Tryz.prog w = .ok (.bool (decide (k = 0))) w := by
  by_cases h : k = 0
  · subst h
    rw [errV_zero]
    have : (binOp .eql 29 .nilIface .nilIface).run Tryz.prog w = .ok (.bool true) w := by go_simp
    rw [this]; rfl
  · rw [errV_pos h, decide_eq_false h]
    go_simp
theorem ne_nil (k : Nat) (w : World) : (binOp .neq 29 (errV k) .nilIface).run Tryz.prog w = .ok (.bool (!decide (k = 0))) w := by
  by_cases h : k = 0
  · subst h
    rw [errV_zero]
    have : (binOp .neq 29 .nilIface .nilIface).run Tryz.prog w = .ok (.bool false) w := by go_simp
    rw [this]; rfl
  · rw [errV_pos h, decide_eq_false h]
    go_simp
theorem egE_nil (x : Operand) (k : Nat) (w : World) : (eqGuard .eql 29 x (.const .nilIface) (errV k) .nilIface).run Tryz.prog w = .ok () w := by
  by_cases h : k = 0
  · subst h
    rw [errV_zero]
    cases x <;> rfl
  · rw [errV_pos h]
    rfl
theorem egN_nil (x : Operand) (k : Nat) (w : World) : (eqGuard .neq 29 x (.const .nilIface) (errV k) .nilIface).run Tryz.prog w = .ok () w := by
  by_cases h : k = 0
  · subst h
    rw [errV_zero]
    cases x <;> rfl
  · rw [errV_pos h]
    rfl
theorem eqn_run {op : Oper} {a : Act} {w : World} {x : Operand} {u : TypeId} (ho : op.op = .binOp .eql 29 x (.const .nilIface) u) {k : Nat} (hx : a.eval x = errV k) : (execOp a.eval op).run Tryz.prog w = .ok (.value (.bool (decide (k = 0)))) w := by
  unfold execOp
  have hn : a.eval (.const .nilIface) = .nilIface := rfl
  simp only [ho, hx, hn, Sem.run_bind, Sem.run_pure, Result.andThen_ok, egE_nil, eq_nil]
theorem nen_run {op : Oper} {a : Act} {w : World} {x : Operand} {u : TypeId} (ho : op.op = .binOp .neq 29 x (.const .nilIface) u) {k : Nat} (hx : a.eval x = errV k) : (execOp a.eval op).run Tryz.prog w = .ok (.value (.bool (!decide (k = 0)))) w := by
  unfold execOp
  have hn : a.eval (.const .nilIface) = .nilIface := rfl
  simp only [ho, hx, hn, Sem.run_bind, Sem.run_pure, Result.andThen_ok, egN_nil, ne_nil]
theorem eqr_run {op : Oper} {a : Act} {w : World} {x y : Operand} {u : TypeId} (ho : op.op = .binOp .eql 27 x y u) {s t s' t' : Bool} {n d n' d' : Nat} (hx : a.eval x = ratV s n t d) (hy : a.eval y = ratV s' n' t' d')
    (hn : Fits n) (hd : Fits d) (hn' : Fits n') (hd' : Fits d') : (execOp a.eval op).run Tryz.prog w = .ok (.value (.bool (decide (s = s' ∧ n = n') && decide (t = t' ∧ d = d')))) w := by
  unfold execOp
  simp only [ho, hx, hy, Sem.run_bind, Sem.run_pure, Result.andThen_ok, eqg_rat, eqRat _ _ _ _ _ _ _ _ _ hn hd hn' hd']
theorem ner_run {op : Oper} {a : Act} {w : World} {x y : Operand} {u : TypeId} (ho : op.op = .binOp .neq 27 x y u) {s t s' t' : Bool} {n d n' d' : Nat} (hx : a.eval x = ratV s n t d) (hy : a.eval y = ratV s' n' t' d')
    (hn : Fits n) (hd : Fits d) (hn' : Fits n') (hd' : Fits d') : (execOp a.eval op).run Tryz.prog w = .ok (.value (.bool (!(decide (s = s' ∧ n = n') && decide (t = t' ∧ d = d'))))) w := by
  unfold execOp
  simp only [ho, hx, hy, Sem.run_bind, Sem.run_pure, Result.andThen_ok, eqg_rat, neRat _ _ _ _ _ _ _ _ _ hn hd hn' hd']
theorem eqn_run' {op : Oper} {a : Act} {w : World} {x : Operand} {u : TypeId} {k : Nat} {b : Bool} (hb : decide (k = 0) = b) (ho : op.op = .binOp .eql 29 x (.const .nilIface) u) (hx : a.eval x = errV k) : (execOp a.eval op).run Tryz.prog w = .ok (.value (.bool b)) w := by
  rw [← hb]
  exact eqn_run ho hx
theorem nen_run' {op : Oper} {a : Act} {w : World} {x : Operand} {u : TypeId} {k : Nat} {b : Bool} (hb : (!decide (k = 0)) = b) (ho : op.op = .binOp .neq 29 x (.const .nilIface) u) (hx : a.eval x = errV k) : (execOp a.eval op).run Tryz.prog w = .ok (.value (.bool b)) w := by
  rw [← hb]
  exact nen_run ho hx
theorem ner_run' {op : Oper} {a : Act} {w : World} {x y : Operand} {u : TypeId} {s t s' t' : Bool} {n d n' d' : Nat} (hb : (decide (s = s' ∧ n = n') && decide (t = t' ∧ d = d')) = true) (ho : op.op = .binOp .neq 27 x y u) (hx : a.eval x = ratV s n t d) (hy : a.eval y = ratV s' n' t' d')
    (hn : Fits n) (hd : Fits d) (hn' : Fits n') (hd' : Fits d') : (execOp a.eval op).run Tryz.prog w = .ok (.value (.bool false)) w := by
  have := ner_run (w := w) ho hx hy hn hd hn' hd'
  rwa [hb] at this
theorem eqr_self {op : Oper} {a : Act} {w : World} {x y : Operand} {u : TypeId} {s t : Bool} {n d : Nat} (ho : op.op = .binOp .eql 27 x y u) (hx : a.eval x = ratV s n t d) (hy : a.eval y = ratV s n t d)
    (hn : Fits n) (hd : Fits d) : (execOp a.eval op).run Tryz.prog w = .ok (.value (.bool true)) w := by
  have := eqr_run (w := w) ho hx hy hn hd hn hd
  simpa using this
theorem load_words {W : World} {b n : Nat} {s : Bool} (h : IntO W b 0 s n) : (loadVar 23 ⟨b, 1, none⟩).run Tryz.prog W = .ok (wordsV n) W := by
  obtain ⟨_, g1, g2, g3, g4, g5, g6, g7, g8⟩ := h.nine0
  refine run_loadVar_mid W b 1 23 [.int .u64 (wd n 0 : Int), .int .u64 (wd n 1 : Int), .int .u64 (wd n 2 : Int), .int .u64 (wd n 3 : Int), .int .u64 (wd n 4 : Int), .int .u64 (wd n 5 : Int), .int .u64 (wd n 6 : Int), .int .u64 (wd n 7 : Int)] (.array 8 22) ?_ (by kernel_rfl) rfl (by kernel_rfl)
  intro j v hv
  rcases j with _ | _ | _ | _ | _ | _ | _ | _ | j
  · exact g1.1.trans hv
  · exact g2.1.trans hv
  · exact g3.1.trans hv
  · exact g4.1.trans hv
  · exact g5.1.trans hv
  · exact g6.1.trans hv
  · exact g7.1.trans hv
  · exact g8.1.trans hv
  · simp at hv
theorem ld_words {op : Oper} {a : Act} {w : World} (x : Operand) (ho : op.op = .load 23 x) {b n : Nat} {s : Bool} (hx : a.eval x = .pointer (some ⟨b, 1, none⟩)) (h : IntO w b 0 s n) : (execOp a.eval op).run Tryz.prog w = .ok (.value (wordsV n)) w := by
  unfold execOp
  simp only [ho, hx, Instr.loadAt, Instr.sureAddr, Sem.run_bind, Sem.run_pure, Result.andThen_ok, load_words h]
theorem build_words {a : Act} {w : World} {op : Oper} {x : Operand} (ho : op.op = .build 25 #[(1, x)]) {n : Nat} (hx : a.eval x = wordsV n) : (execOp a.eval op).run Tryz.prog w = .ok (.value (intV false n)) w := by
  have hrun : (Instr.build 25 #[(1, wordsV n)]).run Tryz.prog w = .ok (intV false n) w := by
    unfold intV wordsV
    go_simp
  unfold execOp
  simp only [ho, List.map_toArray, List.map_cons, List.map_nil, hx, hrun, Sem.run_bind, Sem.run_pure, Result.andThen_ok]
theorem negI_run {z : Int} (h1 : -1 ≤ z) (h2 : z ≤ 1) (w : World) : (Op.unary .neg (.int .i64 z)).run Tryz.prog w = .ok (.int .i64 (-z)) w := by
  have h : z = -1 ∨ z = 0 ∨ z = 1 := by omega
  rcases h with rfl | rfl | rfl <;> rfl
theorem neg_run {op : Oper} {a : Act} {w : World} {x : Operand} {T : TypeId} (ho : op.op = .unOp .neg T x) {z : Int} (hx : a.eval x = .int .i64 z) (h1 : -1 ≤ z) (h2 : z ≤ 1) : (execOp a.eval op).run Tryz.prog w = .ok (.value (.int .i64 (-z))) w := by
  unfold execOp
  simp only [ho, hx, Sem.run_bind, Sem.run_pure, Result.andThen_ok, negI_run h1 h2]
/-! In a region in its text's order: an operation, by its run. -/
theorem wpList_val {ops : Array Oper} {rest : List Oper} {op : Oper} {a : Act} {w : World} {Q : Exit → Act → World → Prop} (hw : Region.wanted op (yielded ops a.tmps) = true) {v : Value} (hv : (execOp a.eval op).run Tryz.prog w = .ok (.value v) w)
    (hK : wpList Tryz.prog ops Q rest (a.put op.dst v) w) : wpList Tryz.prog ops Q (op :: rest) a w := by
  refine wpList_step fun K hK' => ?_
  rw [if_pos hw]
  unfold Oper.wp
  rw [hv]
  exact hK' _ _ hK
theorem errV_sum (s : Bool) (n : Nat) (t : Bool) (d : Nat) : errV (chk s n t d) = if vld s n t d then .nilIface else .iface 74 (.int .i64 (8 : Nat)) := by
  unfold chk
  split <;> rfl
end Go.Proofs.YtgoemhcngmpfbaaGreatDoor

/-
  Tools for the texts of numbers: words loaded, a zero number built, '[]byte(s)' of a text.
-/
namespace Go.Proofs.YtgoemhcngmpfbaaGreatDoor
open Go.RowKit Go.Sort
set_option linter.unusedSimpArgs false

theorem build_zeroN {a : Act} {w : World} {op : Oper} (ho : op.op = .build 25 #[]) : (execOp a.eval op).run Tryz.prog w = .ok (.value (intV false 0)) w := by
  have e : intV false 0 = .agg #[.bool false, .int .u64 0, .int .u64 0, .int .u64 0, .int .u64 0, .int .u64 0, .int .u64 0, .int .u64 0, .int .u64 0] := by simp [intV, wd_zero]
  rw [e]
  unfold execOp
  simp only [ho]
  go_simp
theorem ld_wordsB {op : Oper} {a : Act} {w : World} (x : Operand) (ho : op.op = .load 119 x) {b n : Nat} (hx : a.eval x = .pointer (some ⟨b, 0, none⟩)) (h : WordsAt w b 0 n 8) : (execOp a.eval op).run Tryz.prog w = .ok (.value (wordsV n)) w := by
  obtain ⟨⟨g0, f0⟩, ⟨g1, f1⟩, ⟨g2, f2⟩, ⟨g3, f3⟩, ⟨g4, f4⟩, ⟨g5, f5⟩, ⟨g6, f6⟩, ⟨g7, f7⟩⟩ := h.eight
  have hl : (loadVar 119 ⟨b, 0, none⟩).run Tryz.prog w = .ok (wordsV n) w := by
    refine run_loadVar_mid w b 0 119 [.int .u64 (wd n 0 : Int), .int .u64 (wd n 1 : Int), .int .u64 (wd n 2 : Int), .int .u64 (wd n 3 : Int), .int .u64 (wd n 4 : Int), .int .u64 (wd n 5 : Int), .int .u64 (wd n 6 : Int), .int .u64 (wd n 7 : Int)] (.array 8 22) ?_ (by kernel_rfl) rfl (by kernel_rfl)
    intro j v hv
    rcases j with _ | _ | _ | _ | _ | _ | _ | _ | j
    · exact g0.trans hv
    · exact g1.trans hv
    · exact g2.trans hv
    · exact g3.trans hv
    · exact g4.trans hv
    · exact g5.trans hv
    · exact g6.trans hv
    · exact g7.trans hv
    · simp at hv
  unfold execOp
  simp only [ho, hx, Instr.loadAt, Instr.sureAddr, Sem.run_bind, Sem.run_pure, Result.andThen_ok, hl]
/-- The bytes of a text, as they lie in a block. -/
theorem byts_get {w : World} {B b : Nat} {s : ByteArray} (h : Byts w B (some ⟨b, 0, none⟩) (bts s)) {i : Nat} {c : UInt8} (hc : s.data.toList[i]? = some c) : w.cell? ⟨b, i, none⟩ = some (.int .u8 (c.toNat : Int)) := by
  have hi : i < s.size := by simpa using (List.getElem?_eq_some_iff.1 hc).1
  obtain ⟨b', o', e, _, hx⟩ := h.2 (by rw [bts_length]; omega)
  cases e
  have := hx i (c.toNat : Int) (by unfold bts; rw [List.getElem?_map, hc]; rfl)
  rwa [Nat.zero_add] at this
theorem get_of_lt {s : ByteArray} {i : Nat} (h : i < s.size) : ∃ c, s.data.toList[i]? = some c := ⟨s.data.toList[i]'(by simpa using h), List.getElem?_eq_getElem _⟩
theorem not_nil_of {s : ByteArray} (h : s.size ≠ 0) : s.data.toList ≠ [] := by
  intro e
  have := congrArg List.length e
  simp at this
  exact h (by rw [this]; rfl)
theorem take_all (s : ByteArray) : s.data.toList.take s.size = s.data.toList := List.take_of_length_le (by simp)
end Go.Proofs.YtgoemhcngmpfbaaGreatDoor
