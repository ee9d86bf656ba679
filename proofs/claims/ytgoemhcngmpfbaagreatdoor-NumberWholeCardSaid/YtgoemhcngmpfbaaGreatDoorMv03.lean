/-
  Stage 7: math/bits.Div64 at a divisor whose highest bit is set.
-/
import Derived.Test.YtgoemhcngmpfbaaGreatDoorMv02
import Derived.Deep.CutBlock
namespace Go.Proofs.YtgoemhcngmpfbaaGreatDoor
open Go.RowKit Go.Sort
structure Half (H y1 y0 u q r : Nat) : Prop where
 sum : q * y1 + r = H
 ge : (H * 4294967296 + u) / (y1 * 4294967296 + y0) ≤ q
theorem Half.start {H y1 y0 u : Nat} (hy : 0 < y1) (hu : u < 4294967296) : Half H y1 y0 u (H / y1) (H % y1) := by
 refine ⟨by rw [Nat.mul_comm]; exact Nat.div_add_mod _ _, ?_⟩
 apply (Nat.le_div_iff_mul_le hy).2
 have h1 := Nat.div_mul_le_self (H * 4294967296 + u) (y1 * 4294967296 + y0)
 rw [Nat.mul_add, ← Nat.mul_assoc] at h1
 generalize (H * 4294967296 + u) / (y1 * 4294967296 + y0) * y1 = a at *
 generalize (H * 4294967296 + u) / (y1 * 4294967296 + y0) * y0 = b at *
 omega
theorem Half.less {H y1 y0 u q r : Nat} (h : Half H y1 y0 u q r) (hy : 0 < y1) (hu : u < 4294967296) (hH : H < y1 * 4294967296 + y0) (hc : 4294967296 ≤ q ∨ 4294967296 * r + u < q * y0) : 0 < q ∧ Half H y1 y0 u (q - 1) (r + y1) := by
 have hs : 0 < q → (q - 1) * y1 + (r + y1) = H := fun hp => by
  have e : q = q - 1 + 1 := by omega
  have := h.sum
  rw [e, Nat.succ_mul] at this
  omega
 rcases hc with hc | hc
 ·refine ⟨by omega, hs (by omega), ?_⟩
  have : (H * 4294967296 + u) / (y1 * 4294967296 + y0) < 4294967296 := (Nat.div_lt_iff_lt_mul (by omega)).2 (by omega)
  omega
 ·have := half_less h.sum h.ge hc hy
  exact ⟨this.2, hs this.2, this.1⟩
theorem Half.done {H y1 y0 u q r : Nat} (h : Half H y1 y0 u q r) (hy : 0 < y1) (hc : q * y0 ≤ 4294967296 * r + u) : (H * 4294967296 + u) / (y1 * 4294967296 + y0) = q := (half_exact h.sum h.ge hc hy).symm
theorem Half.broke {H y1 y0 u q r : Nat} (h : Half H y1 y0 u q r) (hy : 0 < y1) (hy0 : y0 < 4294967296) (hH : H < y1 * 4294967296 + y0) (hr : 4294967296 ≤ r) : (H * 4294967296 + u) / (y1 * 4294967296 + y0) = q := by
 apply h.done hy
 have hq : q < 4294967296 := by
  rcases Nat.lt_or_ge q 4294967296 with h1 | h1
  ·exact h1
  ·have h2 : 4294967296 * y1 ≤ q * y1 := Nat.mul_le_mul_right _ h1
   have := h.sum
   generalize q * y1 = a at *
   omega
 have : q * y0 ≤ 4294967296 * 4294967296 := Nat.mul_le_mul (by omega) (by omega)
 omega
theorem div_linK (K : Nat) {l u1 u0 h a R1 b R0 : Nat} (hl : l = u1 * K + u0) (e1 : h * K + u1 = a + R1) (e0 : R1 * K + u0 = b + R0) : h * (K * K) + l = a * K + b + R0 := by
 have e2 : (h * K + u1) * K = (a + R1) * K := by rw [e1]
 rw [Nat.add_mul, Nat.add_mul, Nat.mul_assoc] at e2
 generalize h * (K * K) = x at *
 generalize u1 * K = y at *
 generalize a * K = z at *
 generalize R1 * K = t at *
 omega
theorem div_lin {l u1 u0 h a R1 b R0 : Nat} (hl : l = u1 * 4294967296 + u0) (e1 : h * 4294967296 + u1 = a + R1) (e0 : R1 * 4294967296 + u0 = b + R0) : h * 18446744073709551616 + l = a * 4294967296 + b + R0 :=
 div_linK 4294967296 hl e1 e0
theorem div_fin {A y q r : Nat} (h : A = y * q + r) (hr : r < y) : A / y = q ∧ A % y = r := by
 subst h
 rw [Nat.mul_add_div (Nat.lt_of_le_of_lt (Nat.zero_le _) hr), Nat.mul_add_mod, Nat.div_eq_of_lt hr, Nat.mod_eq_of_lt hr]
 exact ⟨rfl, rfl⟩
theorem div_split {h l y u1 u0 Q1 R1 Q0 R0 : Nat} (hl : l = u1 * 4294967296 + u0) (e1 : h * 4294967296 + u1 = Q1 * y + R1) (e0 : R1 * 4294967296 + u0 = Q0 * y + R0) (hR : R0 < y) :
  (h * 18446744073709551616 + l) / y = Q1 * 4294967296 + Q0 ∧ (h * 18446744073709551616 + l) % y = R0 :=
 div_fin ((div_lin hl e1 e0).trans (by rw [Nat.mul_comm y, Nat.add_mul, Nat.mul_right_comm])) hR
set_option maxRecDepth 100000 in
set_option maxHeartbeats 8000000 in
theorem div64_run (h l y : Nat) (w : World) (hy : 9223372036854775808 ≤ y) (hy2 : y < 18446744073709551616) (hh : h < y) (hl : l < 18446744073709551616) (hh0 : 0 < h) :
  Calls Tryz.prog 152 #[.int .u64 (h : Int), .int .u64 (l : Int), .int .u64 (y : Int)] w fun e w' =>
   e = .returned (.tuple #[.int .u64 (((h * 18446744073709551616 + l) / y : Nat) : Int), .int .u64 (((h * 18446744073709551616 + l) % y : Nat) : Int)]) ∧ w' = w := by
 have hb : Lib.bitLen y = 64 := by
  rw [Lib.bitLen, bitLen_eq _ _ (by omega)]
  exact nlen_uniq (by decide) hy2 (fun _ => hy)
 have HZ : Hid (∀ W, Calls Tryz.prog 120 #[.int .u64 (y : Int)] W fun e w' => e = .returned (.int .i64 0) ∧ w' = W) := fun W => by
  have := Tryz.bits_LeadingZeros64 (y : Int) W (by omega) (by omega)
  rwa [Int.toNat_natCast, hb] at this
 have e1 : ((y : Int) == 0) = false := by simp; omega
 have e2 : decide ((y : Int) ≤ (h : Int)) = false := by simp; omega
 have e3 : ((h : Int) == 0) = false := by simp; omega
 obtain ⟨y1, hy1⟩ : ∃ y1, y / 4294967296 = y1 := ⟨_, rfl⟩
 obtain ⟨y0, hy0⟩ : ∃ y0, y % 4294967296 = y0 := ⟨_, rfl⟩
 obtain ⟨u1, hu1⟩ : ∃ u1, l / 4294967296 = u1 := ⟨_, rfl⟩
 obtain ⟨u0, hu0⟩ : ∃ u0, l % 4294967296 = u0 := ⟨_, rfl⟩
 have ky1 : (y : Int) / 4294967296 = (y1 : Int) := by omega
 have ky0 : bits .and .u64 (y : Int) 4294967295 = (y0 : Int) := by rw [Mul64.maskN y hy2, hy0]
 have kl : (l : Int) / 18446744073709551616 = 0 := by omega
 have kor : bits .or .u64 (h : Int) 0 = (h : Int) := by
  have := bits_or_u64_nat h 0 (by omega) (by decide)
  simpa using this
 have ku1 : (l : Int) / 4294967296 = (u1 : Int) := by omega
 have ku0 : bits .and .u64 (l : Int) 4294967295 = (u0 : Int) := by rw [Mul64.maskN l hl, hu0]
 have by1 : y1 < 4294967296 ∧ 2147483648 ≤ y1 := by omega
 have by0 : y0 < 4294967296 := by omega
 have bu1 : u1 < 4294967296 := by omega
 have bu0 : u0 < 4294967296 := by omega
 have HY : Hid (y = y1 * 4294967296 + y0) := by show _ = _; omega
 have HLL : Hid (l = u1 * 4294967296 + u0) := by show _ = _; omega
 clear hy1 hy0 hu1 hu0
 obtain ⟨q, hq⟩ : ∃ q, h / y1 = q := ⟨_, rfl⟩
 obtain ⟨m, hm⟩ : ∃ m, q * y1 = m := ⟨_, rfl⟩
 obtain ⟨r, hr⟩ : ∃ r, h - m = r := ⟨_, rfl⟩
 have hmod := Nat.div_add_mod h y1
 have hmlt := Nat.mod_lt h (show y1 > 0 by omega)
 rw [hq, Nat.mul_comm, hm] at hmod
 have hrm : h % y1 = r := by omega
 rw [hrm] at hmod hmlt
 have hy1z : ((y1 : Int) == 0) = false := by simp; omega
 have hql : q ≤ h := by rw [← hq]; exact Nat.div_le_self _ _
 have kq : (h : Int).tdiv (y1 : Int) = (q : Int) := by rw [← hq]; rfl
 have kqw : IntKind.u64.wrap (q : Int) = (q : Int) := by rw [IntKind.wrap_u64]; omega
 have km : (q : Int) * (y1 : Int) = (m : Int) := by rw [← hm]; exact (Int.natCast_mul _ _).symm
 have kmw : IntKind.u64.wrap (m : Int) = (m : Int) := by rw [IntKind.wrap_u64]; omega
 have kr : (h : Int) - (m : Int) = (r : Int) := by omega
 have krw : IntKind.u64.wrap (r : Int) = (r : Int) := by rw [IntKind.wrap_u64]; omega
 go_enter Tryz.func152, Tryz.ntmps152
 go_wp2_with fail
 refine (HZ.out _).mono ?_
 rintro e w1 ⟨rfl, rfl⟩
 go_upto_block 0 with fail
 obtain ⟨Q1, hQ1⟩ : ∃ Q1, (h * 4294967296 + u1) / y = Q1 := ⟨_, rfl⟩
 have HQ1 := Lib.hid hQ1
 clear hQ1
 go_cut [15] (fun s15 wx => s15 = .int .u64 (Q1 : Int) ∧ wx = w1)
 case first =>
  have HS : Hid (Half h y1 y0 u1 q r) := by
   have := Half.start (H := h) (y1 := y1) (y0 := y0) (u := u1) (by omega) bu1
   rwa [hq, hrm] at this
  have HH : Hid (h < y1 * 4294967296 + y0) := by have := HY.out; show _ < _; omega
  rw [HY.out] at HQ1
  have hr32 : r < 4294967296 := by omega
  clear kq kqw km kmw kr krw hq hm hr hmod hmlt hrm hql kl kor ky1 ky0 ku1 ku0 e1 e2 e3 hy1z HZ HLL bu0
  go_wp2_with fail
  go_loopg [15, 16] (q + 1) (fun f s15 s16 wr => ∃ (q r : Nat), s15 = .int .u64 (q : Int) ∧ s16 = .int .u64 (r : Int) ∧ Hid (q < f) ∧ Hid (r < 4294967296) ∧ Hid (Half h y1 y0 u1 q r) ∧ Hid (q < 18446744073709551616) ∧ wr = w1)
  case atStart => exact ⟨q, r, rfl, rfl, Nat.lt_succ_self q, hr32, HS, by show _ < _; have := HS.out.sum; have := Nat.le_mul_of_pos_right q (show 0 < y1 by omega); omega, rfl⟩
  case round =>
   clear HS hr32
   obtain ⟨q, r, rfl, rfl, HF, HR, HS, HQ, rfl⟩ := hrel
   have hr32 := HR.out
   have hq64 := HQ.out
   obtain ⟨p, hp⟩ : ∃ p, q * y0 = p := ⟨_, rfl⟩
   have HP := Lib.hid hp
   have kp : (q : Int) * (y0 : Int) = (p : Int) := by rw [← hp]; exact (Int.natCast_mul _ _).symm
   by_cases hc : 4294967296 ≤ q ∨ 4294967296 * r + u1 < p
   ·obtain ⟨hq0, hL⟩ := HS.out.less (by omega) bu1 HH.out (by rw [hp]; exact hc)
    obtain ⟨q', hq'⟩ : ∃ q', q - 1 = q' := ⟨_, rfl⟩
    rw [hq'] at hL
    have HL := Lib.hid hL
    have HQQ : Hid (q = q' + 1) := by show _ = _; omega
    have kq1 : (q : Int) - 1 = (q' : Int) := by omega
    have kq1w : IntKind.u64.wrap (q' : Int) = (q' : Int) := by rw [IntKind.wrap_u64]; omega
    obtain ⟨r', hr'⟩ : ∃ r', r + y1 = r' := ⟨_, rfl⟩
    have kr1 : (r : Int) + (y1 : Int) = (r' : Int) := by omega
    have kr1w : IntKind.u64.wrap (r' : Int) = (r' : Int) := by rw [IntKind.wrap_u64]; omega
    have hr64 : r' < 8589934592 := by omega
    rw [hr'] at HL
    clear hL hp hr' hq'
    by_cases hA : 4294967296 ≤ q
    ·have hAz : decide ((4294967296 : Int) ≤ (q : Int)) = true := by simp; omega
     by_cases hB : 4294967296 ≤ r'
     ·have hBz : decide ((4294967296 : Int) ≤ (r' : Int)) = true := by simp; omega
      have HV := Lib.hid (HL.out.broke (by omega) by0 HH.out hB)
      rw [HQ1.out] at HV
      clear hc
      go_wp2_with fail
      go_meet
      exact ⟨by rw [HV.out], rfl⟩
     ·have hBz : decide ((4294967296 : Int) ≤ (r' : Int)) = false := by simp; omega
      clear hc
      go_wp2_with fail
      go_roundg q
      case measure => have := HF.out; omega
      case rel => exact ⟨q', r', by go_num, by go_num, by have := HQQ.out; show _ < _; omega, by show _ < _; omega, HL, by have := HQQ.out; show _ < _; omega, rfl⟩
    ·have hAz : decide ((4294967296 : Int) ≤ (q : Int)) = false := by simp; omega
     have hp64 : p < 18446744073709551616 := by
      have : q * y0 ≤ 4294967295 * 4294967295 := Nat.mul_le_mul (by omega) (by omega)
      rw [HP.out] at this
      omega
     have kpw : IntKind.u64.wrap (p : Int) = (p : Int) := by rw [IntKind.wrap_u64]; omega
     have hCz : decide ((4294967296 : Int) * (r : Int) + (u1 : Int) < (p : Int)) = true := by simp; omega
     by_cases hB : 4294967296 ≤ r'
     ·have hBz : decide ((4294967296 : Int) ≤ (r' : Int)) = true := by simp; omega
      have HV := Lib.hid (HL.out.broke (by omega) by0 HH.out hB)
      rw [HQ1.out] at HV
      clear hc
      go_wp2_with fail
      go_meet
      exact ⟨by rw [HV.out], rfl⟩
     ·have hBz : decide ((4294967296 : Int) ≤ (r' : Int)) = false := by simp; omega
      clear hc
      go_wp2_with fail
      go_roundg q
      case measure => have := HF.out; omega
      case rel => exact ⟨q', r', by go_num, by go_num, by have := HQQ.out; show _ < _; omega, by show _ < _; omega, HL, by have := HQQ.out; show _ < _; omega, rfl⟩
   ·have hA : ¬ 4294967296 ≤ q := fun h => hc (.inl h)
    have hC : ¬ 4294967296 * r + u1 < p := fun h => hc (.inr h)
    have hAz : decide ((4294967296 : Int) ≤ (q : Int)) = false := by simp; omega
    have hp64 : p < 18446744073709551616 := by
     have : q * y0 ≤ 4294967295 * 4294967295 := Nat.mul_le_mul (by omega) (by omega)
     rw [HP.out] at this
     omega
    have kpw : IntKind.u64.wrap (p : Int) = (p : Int) := by rw [IntKind.wrap_u64]; omega
    have hCz : decide ((4294967296 : Int) * (r : Int) + (u1 : Int) < (p : Int)) = false := by simp; omega
    have HV := Lib.hid (HS.out.done (by omega) (by rw [hp]; omega))
    rw [HQ1.out] at HV
    clear hp hc
    go_wp2_with fail
    go_meet
    exact ⟨by rw [HV.out], rfl⟩
 case rest =>
  obtain ⟨rfl, hwx⟩ := hcut
  subst hwx
  clear kq kqw km kmw kr krw hq hm hr hmod hmlt hrm hql kl kor ky1 ky0 ku1 ku0 e1 e2 e3 HZ
  obtain ⟨R1, hR1⟩ : ∃ R1, (h * 4294967296 + u1) % y = R1 := ⟨_, rfl⟩
  have hR1b : R1 < y := by rw [← hR1]; exact Nat.mod_lt _ (by omega)
  have HE1 : Hid (h * 4294967296 + u1 = Q1 * y + R1) := by
   have := Nat.div_add_mod (h * 4294967296 + u1) y
   rw [HQ1.out, hR1, Nat.mul_comm] at this
   exact this.symm
  have kR : IntKind.u64.wrap (IntKind.u64.wrap (IntKind.u64.wrap ((h : Int) * 4294967296) + (u1 : Int)) - IntKind.u64.wrap ((Q1 : Int) * (y : Int))) = (R1 : Int) := by
   have e0 := HE1.out
   have e4 : (Q1 : Int) * (y : Int) = ((Q1 * y : Nat) : Int) := (Int.natCast_mul _ _).symm
   rw [e4]
   simp only [IntKind.wrap_u64]
   generalize Q1 * y = a at *
   omega
  obtain ⟨Q0, hQ0⟩ : ∃ Q0, (R1 * 4294967296 + u0) / y = Q0 := ⟨_, rfl⟩
  obtain ⟨R0, hR0⟩ : ∃ R0, (R1 * 4294967296 + u0) % y = R0 := ⟨_, rfl⟩
  have HQ0 := Lib.hid hQ0
  have HE0 : Hid (R1 * 4294967296 + u0 = Q0 * y + R0 ∧ R0 < y) := by
   have := Nat.div_add_mod (R1 * 4294967296 + u0) y
   rw [hQ0, hR0, Nat.mul_comm] at this
   exact ⟨this.symm, by rw [← hR0]; exact Nat.mod_lt _ (by omega)⟩
  have HFIN : Hid ((h * 18446744073709551616 + l) / y = Q1 * 4294967296 + Q0 ∧ (h * 18446744073709551616 + l) % y = R0 ∧ Q0 < 4294967296 ∧ Q1 < 4294967296) := by
   have hsp := div_split HLL.out HE1.out HE0.out.1 HE0.out.2
   refine ⟨hsp.1, hsp.2, ?_, ?_⟩
   ·rw [← hQ0]; exact (Nat.div_lt_iff_lt_mul (by omega)).2 (by omega)
   ·rw [← HQ1.out]; exact (Nat.div_lt_iff_lt_mul (by omega)).2 (by omega)
  clear hR1 hQ0 hR0
  obtain ⟨q, hq⟩ : ∃ q, R1 / y1 = q := ⟨_, rfl⟩
  obtain ⟨m, hm⟩ : ∃ m, q * y1 = m := ⟨_, rfl⟩
  obtain ⟨r, hr⟩ : ∃ r, R1 - m = r := ⟨_, rfl⟩
  have hmod := Nat.div_add_mod R1 y1
  have hmlt := Nat.mod_lt R1 (show y1 > 0 by omega)
  rw [hq, Nat.mul_comm, hm] at hmod
  have hrm : R1 % y1 = r := by omega
  rw [hrm] at hmod hmlt
  have hql : q ≤ R1 := by rw [← hq]; exact Nat.div_le_self _ _
  have kq : (R1 : Int).tdiv (y1 : Int) = (q : Int) := by rw [← hq]; rfl
  have kqw : IntKind.u64.wrap (q : Int) = (q : Int) := by rw [IntKind.wrap_u64]; omega
  have km : (q : Int) * (y1 : Int) = (m : Int) := by rw [← hm]; exact (Int.natCast_mul _ _).symm
  have kmw : IntKind.u64.wrap (m : Int) = (m : Int) := by rw [IntKind.wrap_u64]; omega
  have kr : (R1 : Int) - (m : Int) = (r : Int) := by omega
  have krw : IntKind.u64.wrap (r : Int) = (r : Int) := by rw [IntKind.wrap_u64]; omega
  go_upto_block 2 with fail
  go_cut [18] (fun s18 wx => s18 = .int .u64 (Q0 : Int) ∧ wx = wc)
  case first =>
   have HS : Hid (Half R1 y1 y0 u0 q r) := by
    have := Half.start (H := R1) (y1 := y1) (y0 := y0) (u := u0) (by omega) bu0
    rwa [hq, hrm] at this
   have HH : Hid (R1 < y1 * 4294967296 + y0) := by have := HY.out; show _ < _; omega
   rw [HY.out] at HQ0
   have hr32 : r < 4294967296 := by omega
   clear kq kqw km kmw kr krw hq hm hr hmod hmlt hrm hql kR
   go_wp2_with fail
   go_loopg [16, 18] (q + 1) (fun f s16 s18 wr => ∃ (q r : Nat), s16 = .int .u64 (r : Int) ∧ s18 = .int .u64 (q : Int) ∧ Hid (q < f) ∧ Hid (r < 4294967296) ∧ Hid (Half R1 y1 y0 u0 q r) ∧ Hid (q < 18446744073709551616) ∧ wr = wc)
   case atStart => exact ⟨q, r, rfl, rfl, Nat.lt_succ_self q, hr32, HS, by show _ < _; have := HS.out.sum; have := Nat.le_mul_of_pos_right q (show 0 < y1 by omega); omega, rfl⟩
   case round =>
    clear HS hr32
    obtain ⟨q, r, rfl, rfl, HF, HR, HS, HQ, rfl⟩ := hrel
    have hr32 := HR.out
    have hq64 := HQ.out
    obtain ⟨p, hp⟩ : ∃ p, q * y0 = p := ⟨_, rfl⟩
    have HP := Lib.hid hp
    have kp : (q : Int) * (y0 : Int) = (p : Int) := by rw [← hp]; exact (Int.natCast_mul _ _).symm
    by_cases hc : 4294967296 ≤ q ∨ 4294967296 * r + u0 < p
    ·obtain ⟨hq0, hL⟩ := HS.out.less (by omega) bu0 HH.out (by rw [hp]; exact hc)
     obtain ⟨q', hq'⟩ : ∃ q', q - 1 = q' := ⟨_, rfl⟩
     rw [hq'] at hL
     have HL := Lib.hid hL
     have HQQ : Hid (q = q' + 1) := by show _ = _; omega
     have kq1 : (q : Int) - 1 = (q' : Int) := by omega
     have kq1w : IntKind.u64.wrap (q' : Int) = (q' : Int) := by rw [IntKind.wrap_u64]; omega
     obtain ⟨r', hr'⟩ : ∃ r', r + y1 = r' := ⟨_, rfl⟩
     have kr1 : (r : Int) + (y1 : Int) = (r' : Int) := by omega
     have kr1w : IntKind.u64.wrap (r' : Int) = (r' : Int) := by rw [IntKind.wrap_u64]; omega
     have hr64 : r' < 8589934592 := by omega
     rw [hr'] at HL
     clear hL hp hr' hq'
     by_cases hA : 4294967296 ≤ q
     ·have hAz : decide ((4294967296 : Int) ≤ (q : Int)) = true := by simp; omega
      by_cases hB : 4294967296 ≤ r'
      ·have hBz : decide ((4294967296 : Int) ≤ (r' : Int)) = true := by simp; omega
       have HV := Lib.hid (HL.out.broke (by omega) by0 HH.out hB)
       rw [HQ0.out] at HV
       clear hc
       go_wp2_with fail
       go_meet
       exact ⟨by rw [HV.out], rfl⟩
      ·have hBz : decide ((4294967296 : Int) ≤ (r' : Int)) = false := by simp; omega
       clear hc
       go_wp2_with fail
       go_roundg q
       case measure => have := HF.out; omega
       case rel => exact ⟨q', r', by go_num, by go_num, by have := HQQ.out; show _ < _; omega, by show _ < _; omega, HL, by have := HQQ.out; show _ < _; omega, rfl⟩
     ·have hAz : decide ((4294967296 : Int) ≤ (q : Int)) = false := by simp; omega
      have hp64 : p < 18446744073709551616 := by
       have : q * y0 ≤ 4294967295 * 4294967295 := Nat.mul_le_mul (by omega) (by omega)
       rw [HP.out] at this
       omega
      have kpw : IntKind.u64.wrap (p : Int) = (p : Int) := by rw [IntKind.wrap_u64]; omega
      have hCz : decide ((4294967296 : Int) * (r : Int) + (u0 : Int) < (p : Int)) = true := by simp; omega
      by_cases hB : 4294967296 ≤ r'
      ·have hBz : decide ((4294967296 : Int) ≤ (r' : Int)) = true := by simp; omega
       have HV := Lib.hid (HL.out.broke (by omega) by0 HH.out hB)
       rw [HQ0.out] at HV
       clear hc
       go_wp2_with fail
       go_meet
       exact ⟨by rw [HV.out], rfl⟩
      ·have hBz : decide ((4294967296 : Int) ≤ (r' : Int)) = false := by simp; omega
       clear hc
       go_wp2_with fail
       go_roundg q
       case measure => have := HF.out; omega
       case rel => exact ⟨q', r', by go_num, by go_num, by have := HQQ.out; show _ < _; omega, by show _ < _; omega, HL, by have := HQQ.out; show _ < _; omega, rfl⟩
    ·have hA : ¬ 4294967296 ≤ q := fun h => hc (.inl h)
     have hC : ¬ 4294967296 * r + u0 < p := fun h => hc (.inr h)
     have hAz : decide ((4294967296 : Int) ≤ (q : Int)) = false := by simp; omega
     have hp64 : p < 18446744073709551616 := by
      have : q * y0 ≤ 4294967295 * 4294967295 := Nat.mul_le_mul (by omega) (by omega)
      rw [HP.out] at this
      omega
     have kpw : IntKind.u64.wrap (p : Int) = (p : Int) := by rw [IntKind.wrap_u64]; omega
     have hCz : decide ((4294967296 : Int) * (r : Int) + (u0 : Int) < (p : Int)) = false := by simp; omega
     have HV := Lib.hid (HS.out.done (by omega) (by rw [hp]; omega))
     rw [HQ0.out] at HV
     clear hp hc
     go_wp2_with fail
     go_meet
     exact ⟨by rw [HV.out], rfl⟩
  case rest =>
   obtain ⟨rfl, hwx⟩ := hcut
   subst hwx
   obtain ⟨_, _, f3, f4⟩ := HFIN.out
   have kQ : IntKind.u64.wrap (IntKind.u64.wrap ((Q1 : Int) * 4294967296) + (Q0 : Int)) = ((Q1 * 4294967296 + Q0 : Nat) : Int) := by
    simp only [IntKind.wrap_u64]
    omega
   have kR0 : IntKind.u64.wrap (IntKind.u64.wrap (IntKind.u64.wrap ((R1 : Int) * 4294967296) + (u0 : Int)) - IntKind.u64.wrap ((Q0 : Int) * (y : Int))) = (R0 : Int) := by
    have e0 := HE0.out
    have e4 : (Q0 : Int) * (y : Int) = ((Q0 * y : Nat) : Int) := (Int.natCast_mul _ _).symm
    rw [e4]
    simp only [IntKind.wrap_u64]
    generalize Q0 * y = a at *
    omega
   clear kq kqw km kmw kr krw hq hm hr hmod hmlt hrm hql f3 f4
   go_wp2_with fail
   go_ret2
   exact ⟨by rw [HFIN.out.1, HFIN.out.2.1]; rfl, rfl⟩
end Go.Proofs.YtgoemhcngmpfbaaGreatDoor
