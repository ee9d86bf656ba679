/-
  Stage 7: math/bits.Div64 at a divisor whose highest bit is set.
-/
import Derived.Test.YtgkhjeefcflmcaaGreatDoorMt03
import Derived.Deep.CutBlock
import Derived.Deep.AppendLies
namespace Go.Proofs.YtgkhjeefcflmcaaGreatDoor
open Go.RowKit Go.Sort
structure Half (H y1 y0 u q r : Nat) : Prop where
 sum : q * y1 + r = H
 ge : (H * 4294967296 + u) / (y1 * 4294967296 + y0) ≤ q
theorem Half.start {H y1 y0 u : Nat} (hy : 0 < y1) (hu : u < 4294967296) : Half H y1 y0 u (H / y1) (H % y1) := by
 refine ⟨by rw [Nat.mul_comm]; exact Nat.div_add_mod _ _, ?_⟩
 apply (Nat.le_div_iff_mul_le hy).2
 have h1 := Nat.div_mul_le_self (H * 4294967296 + u) (y1 * 4294967296 + y0)
 rw [Nat.mul_add, ← Nat.mul_assoc] at h1
 generalize (H * 4294967296 + u) / (y1 * 4294967296 + y0) * y1 = a at *
 generalize (H * 4294967296 + u) / (y1 * 4294967296 + y0) * y0 = b at *
 omega
theorem Half.less {H y1 y0 u q r : Nat} (h : Half H y1 y0 u q r) (hy : 0 < y1) (hu : u < 4294967296) (hH : H < y1 * 4294967296 + y0) (hc : 4294967296 ≤ q ∨ 4294967296 * r + u < q * y0) : 0 < q ∧ Half H y1 y0 u (q - 1) (r + y1) := by
 have hs : 0 < q → (q - 1) * y1 + (r + y1) = H := fun hp => by
  have e : q = q - 1 + 1 := by omega
  have := h.sum
  rw [e, Nat.succ_mul] at this
  omega
 rcases hc with hc | hc
 ·refine ⟨by omega, hs (by omega), ?_⟩
  have : (H * 4294967296 + u) / (y1 * 4294967296 + y0) < 4294967296 := (Nat.div_lt_iff_lt_mul (by omega)).2 (by omega)
  omega
 ·have := half_less h.sum h.ge hc hy
  exact ⟨this.2, hs this.2, this.1⟩
theorem Half.done {H y1 y0 u q r : Nat} (h : Half H y1 y0 u q r) (hy : 0 < y1) (hc : q * y0 ≤ 4294967296 * r + u) : (H * 4294967296 + u) / (y1 * 4294967296 + y0) = q := (half_exact h.sum h.ge hc hy).symm
theorem Half.broke {H y1 y0 u q r : Nat} (h : Half H y1 y0 u q r) (hy : 0 < y1) (hy0 : y0 < 4294967296) (hH : H < y1 * 4294967296 + y0) (hr : 4294967296 ≤ r) : (H * 4294967296 + u) / (y1 * 4294967296 + y0) = q := by
 apply h.done hy
 have hq : q < 4294967296 := by
  rcases Nat.lt_or_ge q 4294967296 with h1 | h1
  ·exact h1
  ·have h2 : 4294967296 * y1 ≤ q * y1 := Nat.mul_le_mul_right _ h1
   have := h.sum
   generalize q * y1 = a at *
   omega
 have : q * y0 ≤ 4294967296 * 4294967296 := Nat.mul_le_mul (by omega) (by omega)
 omega
theorem div_linK (K : Nat) {l u1 u0 h a R1 b R0 : Nat} (hl : l = u1 * K + u0) (e1 : h * K + u1 = a + R1) (e0 : R1 * K + u0 = b + R0) : h * (K * K) + l = a * K + b + R0 := by
 have e2 : (h * K + u1) * K = (a + R1) * K := by rw [e1]
 rw [Nat.add_mul, Nat.add_mul, Nat.mul_assoc] at e2
 generalize h * (K * K) = x at *
 generalize u1 * K = y at *
 generalize a * K = z at *
 generalize R1 * K = t at *
 omega
theorem div_lin {l u1 u0 h a R1 b R0 : Nat} (hl : l = u1 * 4294967296 + u0) (e1 : h * 4294967296 + u1 = a + R1) (e0 : R1 * 4294967296 + u0 = b + R0) : h * 18446744073709551616 + l = a * 4294967296 + b + R0 :=
 div_linK 4294967296 hl e1 e0
theorem div_fin {A y q r : Nat} (h : A = y * q + r) (hr : r < y) : A / y = q ∧ A % y = r := by
 subst h
 rw [Nat.mul_add_div (Nat.lt_of_le_of_lt (Nat.zero_le _) hr), Nat.mul_add_mod, Nat.div_eq_of_lt hr, Nat.mod_eq_of_lt hr]
 exact ⟨rfl, rfl⟩
theorem div_split {h l y u1 u0 Q1 R1 Q0 R0 : Nat} (hl : l = u1 * 4294967296 + u0) (e1 : h * 4294967296 + u1 = Q1 * y + R1) (e0 : R1 * 4294967296 + u0 = Q0 * y + R0) (hR : R0 < y) :
  (h * 18446744073709551616 + l) / y = Q1 * 4294967296 + Q0 ∧ (h * 18446744073709551616 + l) % y = R0 :=
 div_fin ((div_lin hl e1 e0).trans (by rw [Nat.mul_comm y, Nat.add_mul, Nat.mul_right_comm])) hR
set_option maxRecDepth 100000 in
set_option maxHeartbeats 8000000 in
theorem div64_run (h l y : Nat) (w : World) (hy : 9223372036854775808 ≤ y) (hy2 : y < 18446744073709551616) (hh : h < y) (hl : l < 18446744073709551616) (hh0 : 0 < h) :
  Calls Tryz.prog 259 #[.int .u64 (h : Int), .int .u64 (l : Int), .int .u64 (y : Int)] w fun e w' =>
   e = .returned (.tuple #[.int .u64 (((h * 18446744073709551616 + l) / y : Nat) : Int), .int .u64 (((h * 18446744073709551616 + l) % y : Nat) : Int)]) ∧ w' = w := by
 have hb : Lib.bitLen y = 64 := by
  rw [Lib.bitLen, bitLen_eq _ _ (by omega)]
  exact nlen_uniq (by decide) hy2 (fun _ => hy)
 have HZ : Hid (∀ W, Calls Tryz.prog 248 #[.int .u64 (y : Int)] W fun e w' => e = .returned (.int .i64 0) ∧ w' = W) := fun W => by
  have := Tryz.bits_LeadingZeros64 (y : Int) W (by omega) (by omega)
  rwa [Int.toNat_natCast, hb] at this
 have e1 : ((y : Int) == 0) = false := by simp; omega
 have e2 : decide ((y : Int) ≤ (h : Int)) = false := by simp; omega
 have e3 : ((h : Int) == 0) = false := by simp; omega
 obtain ⟨y1, hy1⟩ : ∃ y1, y / 4294967296 = y1 := ⟨_, rfl⟩
 obtain ⟨y0, hy0⟩ : ∃ y0, y % 4294967296 = y0 := ⟨_, rfl⟩
 obtain ⟨u1, hu1⟩ : ∃ u1, l / 4294967296 = u1 := ⟨_, rfl⟩
 obtain ⟨u0, hu0⟩ : ∃ u0, l % 4294967296 = u0 := ⟨_, rfl⟩
 have ky1 : (y : Int) / 4294967296 = (y1 : Int) := by omega
 have ky0 : bits .and .u64 (y : Int) 4294967295 = (y0 : Int) := by rw [Mul64.maskN y hy2, hy0]
 have kl : (l : Int) / 18446744073709551616 = 0 := by omega
 have kor : bits .or .u64 (h : Int) 0 = (h : Int) := by
  have := bits_or_u64_nat h 0 (by omega) (by decide)
  simpa using this
 have ku1 : (l : Int) / 4294967296 = (u1 : Int) := by omega
 have ku0 : bits .and .u64 (l : Int) 4294967295 = (u0 : Int) := by rw [Mul64.maskN l hl, hu0]
 have by1 : y1 < 4294967296 ∧ 2147483648 ≤ y1 := by omega
 have by0 : y0 < 4294967296 := by omega
 have bu1 : u1 < 4294967296 := by omega
 have bu0 : u0 < 4294967296 := by omega
 have HY : Hid (y = y1 * 4294967296 + y0) := by show _ = _; omega
 have HLL : Hid (l = u1 * 4294967296 + u0) := by show _ = _; omega
 clear hy1 hy0 hu1 hu0
 obtain ⟨q, hq⟩ : ∃ q, h / y1 = q := ⟨_, rfl⟩
 obtain ⟨m, hm⟩ : ∃ m, q * y1 = m := ⟨_, rfl⟩
 obtain ⟨r, hr⟩ : ∃ r, h - m = r := ⟨_, rfl⟩
 have hmod := Nat.div_add_mod h y1
 have hmlt := Nat.mod_lt h (show y1 > 0 by omega)
 rw [hq, Nat.mul_comm, hm] at hmod
 have hrm : h % y1 = r := by omega
 rw [hrm] at hmod hmlt
 have hy1z : ((y1 : Int) == 0) = false := by simp; omega
 have hql : q ≤ h := by rw [← hq]; exact Nat.div_le_self _ _
 have kq : (h : Int).tdiv (y1 : Int) = (q : Int) := by rw [← hq]; rfl
 have kqw : IntKind.u64.wrap (q : Int) = (q : Int) := by rw [IntKind.wrap_u64]; omega
 have km : (q : Int) * (y1 : Int) = (m : Int) := by rw [← hm]; exact (Int.natCast_mul _ _).symm
 have kmw : IntKind.u64.wrap (m : Int) = (m : Int) := by rw [IntKind.wrap_u64]; omega
 have kr : (h : Int) - (m : Int) = (r : Int) := by omega
 have krw : IntKind.u64.wrap (r : Int) = (r : Int) := by rw [IntKind.wrap_u64]; omega
 go_enter Tryz.func259, Tryz.ntmps259
 go_wp2_with fail
 refine (HZ.out _).mono ?_
 rintro e w1 ⟨rfl, rfl⟩
 go_upto_block 0 with fail
 obtain ⟨Q1, hQ1⟩ : ∃ Q1, (h * 4294967296 + u1) / y = Q1 := ⟨_, rfl⟩
 have HQ1 := Lib.hid hQ1
 clear hQ1
 go_cut [15] (fun s15 wx => s15 = .int .u64 (Q1 : Int) ∧ wx = w1)
 case first =>
  have HS : Hid (Half h y1 y0 u1 q r) := by
   have := Half.start (H := h) (y1 := y1) (y0 := y0) (u := u1) (by omega) bu1
   rwa [hq, hrm] at this
  have HH : Hid (h < y1 * 4294967296 + y0) := by have := HY.out; show _ < _; omega
  rw [HY.out] at HQ1
  have hr32 : r < 4294967296 := by omega
  clear kq kqw km kmw kr krw hq hm hr hmod hmlt hrm hql kl kor ky1 ky0 ku1 ku0 e1 e2 e3 hy1z HZ HLL bu0
  go_wp2_with fail
  go_loopg [15, 16] (q + 1) (fun f s15 s16 wr => ∃ (q r : Nat), s15 = .int .u64 (q : Int) ∧ s16 = .int .u64 (r : Int) ∧ Hid (q < f) ∧ Hid (r < 4294967296) ∧ Hid (Half h y1 y0 u1 q r) ∧ Hid (q < 18446744073709551616) ∧ wr = w1)
  case atStart => exact ⟨q, r, rfl, rfl, Nat.lt_succ_self q, hr32, HS, by show _ < _; have := HS.out.sum; have := Nat.le_mul_of_pos_right q (show 0 < y1 by omega); omega, rfl⟩
  case round =>
   clear HS hr32
   obtain ⟨q, r, rfl, rfl, HF, HR, HS, HQ, rfl⟩ := hrel
   have hr32 := HR.out
   have hq64 := HQ.out
   obtain ⟨p, hp⟩ : ∃ p, q * y0 = p := ⟨_, rfl⟩
   have HP := Lib.hid hp
   have kp : (q : Int) * (y0 : Int) = (p : Int) := by rw [← hp]; exact (Int.natCast_mul _ _).symm
   by_cases hc : 4294967296 ≤ q ∨ 4294967296 * r + u1 < p
   ·obtain ⟨hq0, hL⟩ := HS.out.less (by omega) bu1 HH.out (by rw [hp]; exact hc)
    obtain ⟨q', hq'⟩ : ∃ q', q - 1 = q' := ⟨_, rfl⟩
    rw [hq'] at hL
    have HL := Lib.hid hL
    have HQQ : Hid (q = q' + 1) := by show _ = _; omega
    have kq1 : (q : Int) - 1 = (q' : Int) := by omega
    have kq1w : IntKind.u64.wrap (q' : Int) = (q' : Int) := by rw [IntKind.wrap_u64]; omega
    obtain ⟨r', hr'⟩ : ∃ r', r + y1 = r' := ⟨_, rfl⟩
    have kr1 : (r : Int) + (y1 : Int) = (r' : Int) := by omega
    have kr1w : IntKind.u64.wrap (r' : Int) = (r' : Int) := by rw [IntKind.wrap_u64]; omega
    have hr64 : r' < 8589934592 := by omega
    rw [hr'] at HL
    clear hL hp hr' hq'
    by_cases hA : 4294967296 ≤ q
    ·have hAz : decide ((4294967296 : Int) ≤ (q : Int)) = true := by simp; omega
     by_cases hB : 4294967296 ≤ r'
     ·have hBz : decide ((4294967296 : Int) ≤ (r' : Int)) = true := by simp; omega
      have HV := Lib.hid (HL.out.broke (by omega) by0 HH.out hB)
      rw [HQ1.out] at HV
      clear hc
      go_wp2_with fail
      go_meet
      exact ⟨by rw [HV.out], rfl⟩
     ·have hBz : decide ((4294967296 : Int) ≤ (r' : Int)) = false := by simp; omega
      clear hc
      go_wp2_with fail
      go_roundg q
      case measure => have := HF.out; omega
      case rel => exact ⟨q', r', by go_num, by go_num, by have := HQQ.out; show _ < _; omega, by show _ < _; omega, HL, by have := HQQ.out; show _ < _; omega, rfl⟩
    ·have hAz : decide ((4294967296 : Int) ≤ (q : Int)) = false := by simp; omega
     have hp64 : p < 18446744073709551616 := by
      have : q * y0 ≤ 4294967295 * 4294967295 := Nat.mul_le_mul (by omega) (by omega)
      rw [HP.out] at this
      omega
     have kpw : IntKind.u64.wrap (p : Int) = (p : Int) := by rw [IntKind.wrap_u64]; omega
     have hCz : decide ((4294967296 : Int) * (r : Int) + (u1 : Int) < (p : Int)) = true := by simp; omega
     by_cases hB : 4294967296 ≤ r'
     ·have hBz : decide ((4294967296 : Int) ≤ (r' : Int)) = true := by simp; omega
      have HV := Lib.hid (HL.out.broke (by omega) by0 HH.out hB)
      rw [HQ1.out] at HV
      clear hc
      go_wp2_with fail
      go_meet
      exact ⟨by rw [HV.out], rfl⟩
     ·have hBz : decide ((4294967296 : Int) ≤ (r' : Int)) = false := by simp; omega
      clear hc
      go_wp2_with fail
      go_roundg q
      case measure => have := HF.out; omega
      case rel => exact ⟨q', r', by go_num, by go_num, by have := HQQ.out; show _ < _; omega, by show _ < _; omega, HL, by have := HQQ.out; show _ < _; omega, rfl⟩
   ·have hA : ¬ 4294967296 ≤ q := fun h => hc (.inl h)
    have hC : ¬ 4294967296 * r + u1 < p := fun h => hc (.inr h)
    have hAz : decide ((4294967296 : Int) ≤ (q : Int)) = false := by simp; omega
    have hp64 : p < 18446744073709551616 := by
     have : q * y0 ≤ 4294967295 * 4294967295 := Nat.mul_le_mul (by omega) (by omega)
     rw [HP.out] at this
     omega
    have kpw : IntKind.u64.wrap (p : Int) = (p : Int) := by rw [IntKind.wrap_u64]; omega
    have hCz : decide ((4294967296 : Int) * (r : Int) + (u1 : Int) < (p : Int)) = false := by simp; omega
    have HV := Lib.hid (HS.out.done (by omega) (by rw [hp]; omega))
    rw [HQ1.out] at HV
    clear hp hc
    go_wp2_with fail
    go_meet
    exact ⟨by rw [HV.out], rfl⟩
 case rest =>
  obtain ⟨rfl, hwx⟩ := hcut
  subst hwx
  clear kq kqw km kmw kr krw hq hm hr hmod hmlt hrm hql kl kor ky1 ky0 ku1 ku0 e1 e2 e3 HZ
  obtain ⟨R1, hR1⟩ : ∃ R1, (h * 4294967296 + u1) % y = R1 := ⟨_, rfl⟩
  have hR1b : R1 < y := by rw [← hR1]; exact Nat.mod_lt _ (by omega)
  have HE1 : Hid (h * 4294967296 + u1 = Q1 * y + R1) := by
   have := Nat.div_add_mod (h * 4294967296 + u1) y
   rw [HQ1.out, hR1, Nat.mul_comm] at this
   exact this.symm
  have kR : IntKind.u64.wrap (IntKind.u64.wrap (IntKind.u64.wrap ((h : Int) * 4294967296) + (u1 : Int)) - IntKind.u64.wrap ((Q1 : Int) * (y : Int))) = (R1 : Int) := by
   have e0 := HE1.out
   have e4 : (Q1 : Int) * (y : Int) = ((Q1 * y : Nat) : Int) := (Int.natCast_mul _ _).symm
   rw [e4]
   simp only [IntKind.wrap_u64]
   generalize Q1 * y = a at *
   omega
  obtain ⟨Q0, hQ0⟩ : ∃ Q0, (R1 * 4294967296 + u0) / y = Q0 := ⟨_, rfl⟩
  obtain ⟨R0, hR0⟩ : ∃ R0, (R1 * 4294967296 + u0) % y = R0 := ⟨_, rfl⟩
  have HQ0 := Lib.hid hQ0
  have HE0 : Hid (R1 * 4294967296 + u0 = Q0 * y + R0 ∧ R0 < y) := by
   have := Nat.div_add_mod (R1 * 4294967296 + u0) y
   rw [hQ0, hR0, Nat.mul_comm] at this
   exact ⟨this.symm, by rw [← hR0]; exact Nat.mod_lt _ (by omega)⟩
  have HFIN : Hid ((h * 18446744073709551616 + l) / y = Q1 * 4294967296 + Q0 ∧ (h * 18446744073709551616 + l) % y = R0 ∧ Q0 < 4294967296 ∧ Q1 < 4294967296) := by
   have hsp := div_split HLL.out HE1.out HE0.out.1 HE0.out.2
   refine ⟨hsp.1, hsp.2, ?_, ?_⟩
   ·rw [← hQ0]; exact (Nat.div_lt_iff_lt_mul (by omega)).2 (by omega)
   ·rw [← HQ1.out]; exact (Nat.div_lt_iff_lt_mul (by omega)).2 (by omega)
  clear hR1 hQ0 hR0
  obtain ⟨q, hq⟩ : ∃ q, R1 / y1 = q := ⟨_, rfl⟩
  obtain ⟨m, hm⟩ : ∃ m, q * y1 = m := ⟨_, rfl⟩
  obtain ⟨r, hr⟩ : ∃ r, R1 - m = r := ⟨_, rfl⟩
  have hmod := Nat.div_add_mod R1 y1
  have hmlt := Nat.mod_lt R1 (show y1 > 0 by omega)
  rw [hq, Nat.mul_comm, hm] at hmod
  have hrm : R1 % y1 = r := by omega
  rw [hrm] at hmod hmlt
  have hql : q ≤ R1 := by rw [← hq]; exact Nat.div_le_self _ _
  have kq : (R1 : Int).tdiv (y1 : Int) = (q : Int) := by rw [← hq]; rfl
  have kqw : IntKind.u64.wrap (q : Int) = (q : Int) := by rw [IntKind.wrap_u64]; omega
  have km : (q : Int) * (y1 : Int) = (m : Int) := by rw [← hm]; exact (Int.natCast_mul _ _).symm
  have kmw : IntKind.u64.wrap (m : Int) = (m : Int) := by rw [IntKind.wrap_u64]; omega
  have kr : (R1 : Int) - (m : Int) = (r : Int) := by omega
  have krw : IntKind.u64.wrap (r : Int) = (r : Int) := by rw [IntKind.wrap_u64]; omega
  go_upto_block 2 with fail
  go_cut [18] (fun s18 wx => s18 = .int .u64 (Q0 : Int) ∧ wx = wc)
  case first =>
   have HS : Hid (Half R1 y1 y0 u0 q r) := by
    have := Half.start (H := R1) (y1 := y1) (y0 := y0) (u := u0) (by omega) bu0
    rwa [hq, hrm] at this
   have HH : Hid (R1 < y1 * 4294967296 + y0) := by have := HY.out; show _ < _; omega
   rw [HY.out] at HQ0
   have hr32 : r < 4294967296 := by omega
   clear kq kqw km kmw kr krw hq hm hr hmod hmlt hrm hql kR
   go_wp2_with fail
   go_loopg [16, 18] (q + 1) (fun f s16 s18 wr => ∃ (q r : Nat), s16 = .int .u64 (r : Int) ∧ s18 = .int .u64 (q : Int) ∧ Hid (q < f) ∧ Hid (r < 4294967296) ∧ Hid (Half R1 y1 y0 u0 q r) ∧ Hid (q < 18446744073709551616) ∧ wr = wc)
   case atStart => exact ⟨q, r, rfl, rfl, Nat.lt_succ_self q, hr32, HS, by show _ < _; have := HS.out.sum; have := Nat.le_mul_of_pos_right q (show 0 < y1 by omega); omega, rfl⟩
   case round =>
    clear HS hr32
    obtain ⟨q, r, rfl, rfl, HF, HR, HS, HQ, rfl⟩ := hrel
    have hr32 := HR.out
    have hq64 := HQ.out
    obtain ⟨p, hp⟩ : ∃ p, q * y0 = p := ⟨_, rfl⟩
    have HP := Lib.hid hp
    have kp : (q : Int) * (y0 : Int) = (p : Int) := by rw [← hp]; exact (Int.natCast_mul _ _).symm
    by_cases hc : 4294967296 ≤ q ∨ 4294967296 * r + u0 < p
    ·obtain ⟨hq0, hL⟩ := HS.out.less (by omega) bu0 HH.out (by rw [hp]; exact hc)
     obtain ⟨q', hq'⟩ : ∃ q', q - 1 = q' := ⟨_, rfl⟩
     rw [hq'] at hL
     have HL := Lib.hid hL
     have HQQ : Hid (q = q' + 1) := by show _ = _; omega
     have kq1 : (q : Int) - 1 = (q' : Int) := by omega
     have kq1w : IntKind.u64.wrap (q' : Int) = (q' : Int) := by rw [IntKind.wrap_u64]; omega
     obtain ⟨r', hr'⟩ : ∃ r', r + y1 = r' := ⟨_, rfl⟩
     have kr1 : (r : Int) + (y1 : Int) = (r' : Int) := by omega
     have kr1w : IntKind.u64.wrap (r' : Int) = (r' : Int) := by rw [IntKind.wrap_u64]; omega
     have hr64 : r' < 8589934592 := by omega
     rw [hr'] at HL
     clear hL hp hr' hq'
     by_cases hA : 4294967296 ≤ q
     ·have hAz : decide ((4294967296 : Int) ≤ (q : Int)) = true := by simp; omega
      by_cases hB : 4294967296 ≤ r'
      ·have hBz : decide ((4294967296 : Int) ≤ (r' : Int)) = true := by simp; omega
       have HV := Lib.hid (HL.out.broke (by omega) by0 HH.out hB)
       rw [HQ0.out] at HV
       clear hc
       go_wp2_with fail
       go_meet
       exact ⟨by rw [HV.out], rfl⟩
      ·have hBz : decide ((4294967296 : Int) ≤ (r' : Int)) = false := by simp; omega
       clear hc
       go_wp2_with fail
       go_roundg q
       case measure => have := HF.out; omega
       case rel => exact ⟨q', r', by go_num, by go_num, by have := HQQ.out; show _ < _; omega, by show _ < _; omega, HL, by have := HQQ.out; show _ < _; omega, rfl⟩
     ·have hAz : decide ((4294967296 : Int) ≤ (q : Int)) = false := by simp; omega
      have hp64 : p < 18446744073709551616 := by
       have : q * y0 ≤ 4294967295 * 4294967295 := Nat.mul_le_mul (by omega) (by omega)
       rw [HP.out] at this
       omega
      have kpw : IntKind.u64.wrap (p : Int) = (p : Int) := by rw [IntKind.wrap_u64]; omega
      have hCz : decide ((4294967296 : Int) * (r : Int) + (u0 : Int) < (p : Int)) = true := by simp; omega
      by_cases hB : 4294967296 ≤ r'
      ·have hBz : decide ((4294967296 : Int) ≤ (r' : Int)) = true := by simp; omega
       have HV := Lib.hid (HL.out.broke (by omega) by0 HH.out hB)
       rw [HQ0.out] at HV
       clear hc
       go_wp2_with fail
       go_meet
       exact ⟨by rw [HV.out], rfl⟩
      ·have hBz : decide ((4294967296 : Int) ≤ (r' : Int)) = false := by simp; omega
       clear hc
       go_wp2_with fail
       go_roundg q
       case measure => have := HF.out; omega
       case rel => exact ⟨q', r', by go_num, by go_num, by have := HQQ.out; show _ < _; omega, by show _ < _; omega, HL, by have := HQQ.out; show _ < _; omega, rfl⟩
    ·have hA : ¬ 4294967296 ≤ q := fun h => hc (.inl h)
     have hC : ¬ 4294967296 * r + u0 < p := fun h => hc (.inr h)
     have hAz : decide ((4294967296 : Int) ≤ (q : Int)) = false := by simp; omega
     have hp64 : p < 18446744073709551616 := by
      have : q * y0 ≤ 4294967295 * 4294967295 := Nat.mul_le_mul (by omega) (by omega)
      rw [HP.out] at this
      omega
     have kpw : IntKind.u64.wrap (p : Int) = (p : Int) := by rw [IntKind.wrap_u64]; omega
     have hCz : decide ((4294967296 : Int) * (r : Int) + (u0 : Int) < (p : Int)) = false := by simp; omega
     have HV := Lib.hid (HS.out.done (by omega) (by rw [hp]; omega))
     rw [HQ0.out] at HV
     clear hp hc
     go_wp2_with fail
     go_meet
     exact ⟨by rw [HV.out], rfl⟩
  case rest =>
   obtain ⟨rfl, hwx⟩ := hcut
   subst hwx
   obtain ⟨_, _, f3, f4⟩ := HFIN.out
   have kQ : IntKind.u64.wrap (IntKind.u64.wrap ((Q1 : Int) * 4294967296) + (Q0 : Int)) = ((Q1 * 4294967296 + Q0 : Nat) : Int) := by
    simp only [IntKind.wrap_u64]
    omega
   have kR0 : IntKind.u64.wrap (IntKind.u64.wrap (IntKind.u64.wrap ((R1 : Int) * 4294967296) + (u0 : Int)) - IntKind.u64.wrap ((Q0 : Int) * (y : Int))) = (R0 : Int) := by
    have e0 := HE0.out
    have e4 : (Q0 : Int) * (y : Int) = ((Q0 * y : Nat) : Int) := (Int.natCast_mul _ _).symm
    rw [e4]
    simp only [IntKind.wrap_u64]
    generalize Q0 * y = a at *
    omega
   clear kq kqw km kmw kr krw hq hm hr hmod hmlt hrm hql f3 f4
   go_wp2_with fail
   go_ret2
   exact ⟨by rw [HFIN.out.1, HFIN.out.2.1]; rfl, rfl⟩
end Go.Proofs.YtgkhjeefcflmcaaGreatDoor
namespace Go.Proofs.YtgkhjeefcflmcaaGreatDoor
open Go.RowKit Go.Sort
def rowQ (a b i : Nat) : Nat := a % 18446744073709551616 ^ i * b
def rowM (a b i : Nat) : Nat := rowQ a b i / 18446744073709551616 ^ i + wd a i * b
def rowC (a b i j : Nat) : Nat := car 18446744073709551616 1 (rowQ a b i / 18446744073709551616 ^ i) (wd a i) b 0 j
theorem rowQ_zero (a b : Nat) : rowQ a b 0 = 0 := by simp [rowQ, Nat.mod_one]
theorem rowQ_lt {a b i : Nat} (hb : Fits b) : rowQ a b i < 18446744073709551616 ^ (i + 8) := by
 have h1 : a % 18446744073709551616 ^ i < 18446744073709551616 ^ i := Nat.mod_lt _ (Nat.pow_pos (by decide))
 rw [Nat.pow_add]
 exact Nat.mul_lt_mul'' h1 hb
theorem rowQ_div {a b i : Nat} (hb : Fits b) : rowQ a b i / 18446744073709551616 ^ i < 18446744073709551616 ^ 8 := by
 apply (Nat.div_lt_iff_lt_mul (Nat.pow_pos (by decide))).2
 rw [Nat.mul_comm, ← Nat.pow_add]
 exact rowQ_lt hb
theorem rowC_zero (a b i : Nat) : rowC a b i 0 = 0 := car_zero _ _ _ _ _ _
theorem rowC_lt (a b i j : Nat) : rowC a b i j < 18446744073709551616 := car_lt (by decide) 1 _ (wd a i) b 0 j (by have := wd_lt a i; omega) (by decide)
theorem rowC_step (a b i j : Nat) : (wd a i * wd b j + wd (rowQ a b i) (i + j) + rowC a b i j) % 18446744073709551616 = wd (rowM a b i) j ∧ (wd a i * wd b j + wd (rowQ a b i) (i + j) + rowC a b i j) / 18446744073709551616 = rowC a b i (j + 1) := by
 have h1 := lin_mod (B := 18446744073709551616) (by decide) 1 (rowQ a b i / 18446744073709551616 ^ i) (wd a i) b 0 j
 have h2 := lin_div (B := 18446744073709551616) (by decide) 1 (rowQ a b i / 18446744073709551616 ^ i) (wd a i) b 0 j
 rw [dig_div, Nat.one_mul, Nat.one_mul, Nat.add_zero, Nat.add_comm j i, Nat.add_comm (dig _ (rowQ a b i) (i + j))] at h1
 rw [dig_div, Nat.one_mul, Nat.add_comm j i, Nat.add_comm (dig _ (rowQ a b i) (i + j))] at h2
 exact ⟨h1, h2⟩
theorem rowM_lt {a b i : Nat} (hb : Fits b) : rowM a b i < 18446744073709551616 ^ 9 := by
 have h1 := rowQ_div (a := a) (i := i) hb
 have h2 : wd a i * b ≤ 18446744073709551615 * b := Nat.mul_le_mul_right _ (by have := wd_lt a i; omega)
 have h3 : b < 18446744073709551616 ^ 8 := hb
 unfold rowM
 rw [Nat.pow_succ]
 generalize (18446744073709551616 : Nat) ^ 8 = P at *
 generalize wd a i * b = x at *
 omega
theorem rowC_top {a b i : Nat} (hb : Fits b) : rowC a b i 8 = wd (rowM a b i) 8 := by
 have h1 := car_top 18446744073709551616 1 (wd a i) 0 8 (rowQ_div (a := a) (i := i) hb) hb
 have h2 : rowM a b i / 18446744073709551616 ^ 8 < 18446744073709551616 := (Nat.div_lt_iff_lt_mul (Nat.pow_pos (by decide))).2 (by have := rowM_lt (a := a) (i := i) hb; rwa [Nat.pow_succ, Nat.mul_comm] at this)
 have h3 : rowC a b i 8 = rowM a b i / 18446744073709551616 ^ 8 := by unfold rowC rowM; rw [h1, Nat.one_mul, Nat.add_zero]
 rw [h3]
 exact (Nat.mod_eq_of_lt h2).symm
theorem rowQ_succ (a b i : Nat) : rowQ a b (i + 1) = 18446744073709551616 ^ i * rowM a b i + rowQ a b i % 18446744073709551616 ^ i := by
 have h1 := Nat.div_add_mod (rowQ a b i) (18446744073709551616 ^ i)
 have h2 : rowQ a b (i + 1) = rowQ a b i + 18446744073709551616 ^ i * (wd a i * b) := by
  unfold rowQ
  rw [mod_succ, Nat.add_mul, Nat.mul_assoc]
  rfl
 rw [h2, rowM, Nat.mul_add]
 generalize 18446744073709551616 ^ i * (wd a i * b) = x at *
 generalize 18446744073709551616 ^ i * (rowQ a b i / 18446744073709551616 ^ i) = y at *
 generalize rowQ a b i % 18446744073709551616 ^ i = z at *
 omega
theorem rowQ_low {a b i t : Nat} (h : t < i) : wd (rowQ a b (i + 1)) t = wd (rowQ a b i) t := by
 unfold wd
 rw [← dig_mod (j := i) h, ← dig_mod (n := rowQ a b i) (j := i) h, rowQ_succ, Nat.mul_add_mod, Nat.mod_mod]
theorem rowQ_high (a b i u : Nat) : wd (rowQ a b (i + 1)) (i + u) = wd (rowM a b i) u := by
 unfold wd
 rw [Nat.add_comm i u, ← dig_div, rowQ_succ, Nat.mul_add_div (Nat.pow_pos (by decide)), Nat.div_eq_of_lt (Nat.mod_lt _ (Nat.pow_pos (by decide))), Nat.add_zero]
theorem rowQ_end {a b L : Nat} (h : a < 18446744073709551616 ^ L) : rowQ a b L = a * b := by rw [rowQ, Nat.mod_eq_of_lt h]
theorem row_done {a b i : Nat} (hb : Fits b) {f : Nat → Nat} (h1 : ∀ t, t < i → f t = wd (rowQ a b i) t) (h2 : ∀ t, t < 8 → f (i + t) = wd (rowM a b i) t) (h3 : ∀ t, i + 8 ≤ t → t < 16 → f t = wd (rowQ a b i) t) :
  ∀ t, t < 16 → updF f (i + 8) (rowC a b i 8) t = wd (rowQ a b (i + 1)) t := fun t ht => by
 by_cases e : t = i + 8
 ·rw [e, updF_same, rowQ_high, rowC_top hb]
 ·rw [updF_other e]
  rcases Nat.lt_or_ge t i with ht1 | ht1
  ·rw [h1 t ht1, rowQ_low ht1]
  ·obtain ⟨u, rfl⟩ : ∃ u, t = i + u := ⟨t - i, by omega⟩
   rw [rowQ_high]
   rcases Nat.lt_or_ge u 8 with hu | hu
   ·exact h2 u hu
   ·rw [h3 _ (by omega) ht]
    have p1 : wd (rowQ a b i) (i + u) = 0 := dig_high (Nat.lt_of_lt_of_le (rowQ_lt hb) (Nat.pow_le_pow_right (by decide) (by omega)))
    have p2 : wd (rowM a b i) u = 0 := dig_high (Nat.lt_of_lt_of_le (rowM_lt hb) (Nat.pow_le_pow_right (by decide) (by omega)))
    rw [p1, p2]
abbrev boxZ16 (T : TypeId) : Obj := .cells #[.int .u64 0, .int .u64 0, .int .u64 0, .int .u64 0, .int .u64 0, .int .u64 0, .int .u64 0, .int .u64 0, .int .u64 0, .int .u64 0, .int .u64 0, .int .u64 0, .int .u64 0, .int .u64 0, .int .u64 0, .int .u64 0] T
theorem WordsAt.zero16 (w : World) (T : TypeId) : WordsAt (w.alloc (boxZ16 T)) w.heap.size 0 0 16 := by
 intro i hi
 rw [wd_zero]
 rcases i with _ | _ | _ | _ | _ | _ | _ | _ | _ | _ | _ | _ | _ | _ | _ | _ | i
 all_goals first | exact ⟨World.cell?_alloc_at _ _ _ _ rfl, World.frozen?_alloc_at _ _ _ _ rfl⟩ | omega
def mulW (w : World) (a b : Nat) : World := ((((w.alloc (boxO a 217)).alloc (boxO b 217)).alloc (boxZ 217)).alloc (boxZ 217)).alloc (boxZ16 296)
theorem five_boxes (w : World) (a b : Nat) : WordsAt (mulW w a b) w.heap.size 0 a 8 ∧ WordsAt (mulW w a b) (w.heap.size + 1) 0 b 8 ∧ WordsAt (mulW w a b) (w.heap.size + 1 + 1) 0 0 8 ∧ WordsAt (mulW w a b) (w.heap.size + 1 + 1 + 1) 0 0 8 ∧ WordsAt (mulW w a b) (w.heap.size + 1 + 1 + 1 + 1) 0 0 16 ∧ Below w.heap.size w (mulW w a b) ∧ (mulW w a b).heap.size = w.heap.size + 1 + 1 + 1 + 1 + 1 := by
 obtain ⟨h1, h2, h3, h4⟩ := three_boxes w a b 217 217 217
 have s3 : (((w.alloc (boxO a 217)).alloc (boxO b 217)).alloc (boxZ 217)).heap.size = w.heap.size + 1 + 1 + 1 := by simp
 have h5 := WordsAt.zero (((w.alloc (boxO a 217)).alloc (boxO b 217)).alloc (boxZ 217)) 217
 have h6 := WordsAt.zero16 ((((w.alloc (boxO a 217)).alloc (boxO b 217)).alloc (boxZ 217)).alloc (boxZ 217)) 296
 have s4 : ((((w.alloc (boxO a 217)).alloc (boxO b 217)).alloc (boxZ 217)).alloc (boxZ 217)).heap.size = w.heap.size + 1 + 1 + 1 + 1 := by simp
 rw [s3] at h5
 rw [s4] at h6
 unfold mulW
 have k4 : ∀ x, x < w.heap.size + 1 + 1 + 1 + 1 → x < ((((w.alloc (boxO a 217)).alloc (boxO b 217)).alloc (boxZ 217)).alloc (boxZ 217)).heap.size := fun x hx => Nat.lt_of_lt_of_eq hx s4.symm
 exact ⟨(h1.alloc (by omega) _).alloc (k4 _ (by omega)) _, (h2.alloc (by omega) _).alloc (k4 _ (by omega)) _, (h3.alloc (by omega) _).alloc (k4 _ (by omega)) _, h5.alloc (k4 _ (by omega)) _, h6, (h4.alloc (by omega) _).alloc (Nat.le_of_lt (k4 _ (by omega))) _, by simp⟩
theorem results_cell2 {fn : Func} {p q : Tmp} {ty tz : TypeId} (h : fn.results = #[.cell p ty, .cell q tz]) (tmps : Array Value) (P : Program) (w : World) :
  (results fn tmps).run P w = ((asAddr (tmps.getD p undef)).run P w).andThen fun a w₁ => ((loadVar ty a).run P w₁).andThen fun v w₂ => ((asAddr (tmps.getD q undef)).run P w₂).andThen fun b w₃ => ((loadVar tz b).run P w₃).andThen fun u w₄ => .ok (.tuple #[v, u]) w₄ := by
 simp only [results, h]
 simp [Sem.run_bind, Result.andThen]
theorem below_set8 {B b : Nat} {a w : World} (h : Below B a w) (hB : B ≤ b) (v0 v1 v2 v3 v4 v5 v6 v7 : Value) :
  Below B a ((((((((w.setCell ⟨b, 0, none⟩ v0).setCell ⟨b, 1, none⟩ v1).setCell ⟨b, 2, none⟩ v2).setCell ⟨b, 3, none⟩ v3).setCell ⟨b, 4, none⟩ v4).setCell ⟨b, 5, none⟩ v5).setCell ⟨b, 6, none⟩ v6).setCell ⟨b, 7, none⟩ v7) :=
 (((((((h.setCell (p := ⟨b, 0, none⟩) hB _).setCell (p := ⟨b, 1, none⟩) hB _).setCell (p := ⟨b, 2, none⟩) hB _).setCell (p := ⟨b, 3, none⟩) hB _).setCell (p := ⟨b, 4, none⟩) hB _).setCell (p := ⟨b, 5, none⟩) hB _).setCell (p := ⟨b, 6, none⟩) hB _).setCell (p := ⟨b, 7, none⟩) hB _
set_option maxRecDepth 100000 in
set_option maxHeartbeats 8000000 in
theorem multiply_run (a b : Nat) (w : World) (ha : Hid (Fits a)) (hb : Hid (Fits b)) :
  Calls Tryz.prog 220 #[wordsV a, wordsV b] w fun e w' => e = .returned (.tuple #[wordsV (a * b), wordsV (a * b / 18446744073709551616 ^ 8)]) ∧ Below w.heap.size w w' := by
 obtain ⟨S, hS⟩ : ∃ S, w.heap.size = S := ⟨_, rfl⟩
 obtain ⟨L, hL⟩ : ∃ L, wl a = L := ⟨_, rfl⟩
 have HL := Lib.hid hL
 have HC := Lib.hid (fun W => length_run a W ha)
 rw [hL] at HC
 have T := Lib.hid (five_boxes w a b)
 obtain ⟨⟨c0, d0⟩, ⟨c1, d1⟩, ⟨c2, d2⟩, ⟨c3, d3⟩, ⟨c4, d4⟩, ⟨c5, d5⟩, ⟨c6, d6⟩, ⟨c7, d7⟩⟩ := T.out.1.eight
 unfold mulW at c0 c1 c2 c3 c4 c5 c6 c7 d0 d1 d2 d3 d4 d5 d6 d7
 have hL8 : L ≤ 8 := hL ▸ wl_le ha.out
 clear hL
 unfold wordsV at HC ⊢
 go_enter Tryz.func220, Tryz.ntmps220
 go_wp2_with fail
 refine (HC.out _).mono ?_
 rintro e w1 ⟨rfl, hw1⟩
 have HA1 : Hid (WordsAt w1 S 0 a 8) := by have := T.out.1.keep hw1 (by show w.heap.size < _; exact Nat.lt_of_lt_of_eq (by omega) T.out.2.2.2.2.2.2.symm); rwa [hS] at this
 have HB1 : Hid (WordsAt w1 (S + 1) 0 b 8) := by have := T.out.2.1.keep hw1 (by simp <;> omega); rwa [hS] at this
 have HX1 : Hid (WordsAt w1 (S + 1 + 1) 0 0 8) := by have := T.out.2.2.1.keep hw1 (by simp <;> omega); rwa [hS] at this
 have HY1 : Hid (WordsAt w1 (S + 1 + 1 + 1) 0 0 8) := by have := T.out.2.2.2.1.keep hw1 (by simp <;> omega); rwa [hS] at this
 have HP1 : Hid (WordsAt w1 (S + 1 + 1 + 1 + 1) 0 0 16) := by have := T.out.2.2.2.2.1.keep hw1 (by show w.heap.size + 1 + 1 + 1 + 1 < _; exact Nat.lt_of_lt_of_eq (by omega) T.out.2.2.2.2.2.2.symm); rwa [hS] at this
 have HW1 : Hid (Below S w w1) := by have := T.out.2.2.2.2.2.1.trans (hw1.mono (by simp; omega)); rwa [hS] at this
 clear hw1 T c0 c1 c2 c3 c4 c5 c6 c7 d0 d1 d2 d3 d4 d5 d6 d7 HC
 go_wp2_with fail
 go_loopg [12] (L + 2) (fun h s12 wr => ∃ (i : Nat) (f : Nat → Nat), s12 = .int .i64 (i : Int) ∧ Hid (i ≤ L ∧ L < i + h) ∧ Hid (WordsAt wr S 0 a 8) ∧ Hid (WordsAt wr (S + 1) 0 b 8) ∧ Hid (WordsAt wr (S + 1 + 1) 0 0 8) ∧ Hid (WordsAt wr (S + 1 + 1 + 1) 0 0 8) ∧ Hid (WordsF wr (S + 1 + 1 + 1 + 1) 0 f 16) ∧ Hid (∀ t, t < 16 → f t = wd (rowQ a b i) t) ∧ Hid (Below S w wr))
 case atStart => exact ⟨0, wd 0, rfl, by show _ ∧ _; omega, HA1, HB1, HX1, HY1, HP1, fun t _ => by rw [rowQ_zero], HW1⟩
 case round =>
  clear HA1 HB1 HX1 HY1 HP1 HW1
  obtain ⟨i, f, rfl, HI, HA, HB, HX, HY, HF, HE, HW⟩ := hrel
  by_cases hlt : i < L
  ·have hltz : (i : Int) < (L : Int) := by omega
   go_wp2_with fail
   generalize wr = wo at *
   go_loopg [8, 15] 10 (fun h s8 s15 wr => ∃ (j c : Nat) (f : Nat → Nat), s8 = .int .u64 (c : Int) ∧ s15 = .int .i64 (j : Int) ∧ Hid (j ≤ 8 ∧ 9 ≤ j + h) ∧ Hid (c = rowC a b i j) ∧ Hid (WordsAt wr S 0 a 8) ∧ Hid (WordsAt wr (S + 1) 0 b 8) ∧ Hid (WordsAt wr (S + 1 + 1) 0 0 8) ∧ Hid (WordsAt wr (S + 1 + 1 + 1) 0 0 8) ∧ Hid (WordsF wr (S + 1 + 1 + 1 + 1) 0 f 16) ∧ Hid ((∀ t, t < i → f t = wd (rowQ a b i) t) ∧ (∀ t, t < j → f (i + t) = wd (rowM a b i) t) ∧ (∀ t, i + j ≤ t → t < 16 → f t = wd (rowQ a b i) t)) ∧ Hid (Below S w wr))
   case atStart => exact ⟨0, 0, f, rfl, rfl, by show _ ∧ _; omega, (rowC_zero a b i).symm, HA, HB, HX, HY, HF, ⟨fun t ht => HE.out t (by omega), fun t ht => absurd ht (by omega), fun t _ ht => HE.out t ht⟩, HW⟩
   case round =>
    clear HA HB HX HY HF HE HW
    obtain ⟨j, c, g, rfl, rfl, HJ, HC, HA, HB, HX, HY, HF, HE, HW⟩ := hrel
    by_cases hj : j < 8
    ·have hjz : (j : Int) < 8 := by omega
     have hi8 : i < 8 := by omega
     have hiz : (i : Int) < 8 := by omega
     obtain ⟨m, hm⟩ : ∃ m, i + j = m := ⟨_, rfl⟩
     have HMM := Lib.hid hm
     have hmz : (i : Int) + (j : Int) = (m : Int) := by omega
     have hm16 : m < 16 := by omega
     have hmz16 : (m : Int) < 16 := by omega
     have hmw : IntKind.i64.wrap (m : Int) = (m : Int) := by rw [IntKind.wrap_i64]; omega
     obtain ⟨x, hx⟩ : ∃ x, wd a i = x := ⟨_, rfl⟩
     obtain ⟨y, hy⟩ : ∃ y, wd b j = y := ⟨_, rfl⟩
     obtain ⟨z, hz⟩ : ∃ z, g m = z := ⟨_, rfl⟩
     have ca := (HA.out i hi8).1
     have cb := (HB.out j hj).1
     have cf := HF.out m hm16
     rw [Nat.zero_add] at ca cb cf
     rw [hx] at ca
     rw [hy] at cb
     rw [hz] at cf
     obtain ⟨cf1, cf2⟩ := cf
     have hzq : z = wd (rowQ a b i) (i + j) := by rw [← hz, hm]; exact HE.out.2.2 m (by omega) hm16
     have hst := rowC_step a b i j
     have HM : Hid (∀ W, Calls Tryz.prog 186 #[.int .u64 (x : Int), .int .u64 (y : Int), .int .u64 (z : Int), .int .u64 (c : Int)] W fun e w' => e = .returned (.tuple #[.int .u64 (rowC a b i (j + 1) : Int), .int .u64 (wd (rowM a b i) j : Int)]) ∧ w' = W) := fun W => by
      have := multiplyAdd_run x y z c W (hx ▸ wd_lt a i) (hy ▸ wd_lt b j) (hzq ▸ wd_lt _ _) (HC.out ▸ rowC_lt a b i j)
      rw [hx, hy, ← hzq, ← HC.out] at hst
      rwa [hst.1, hst.2] at this
     obtain ⟨c2, hc2⟩ : ∃ c2, rowC a b i (j + 1) = c2 := ⟨_, rfl⟩
     obtain ⟨s, hs⟩ : ∃ s, wd (rowM a b i) j = s := ⟨_, rfl⟩
     rw [hc2, hs] at HM
     have HC2 := Lib.hid hc2
     have HS := Lib.hid hs
     clear hx hy hz hzq hst hc2 hs hm
     go_wp2_with fail
     go_region_with (go_at_call 186; refine (HM.out _).mono ?_; rintro e w1 ⟨rfl, rfl⟩)
     all_goals
      have KF := HF.out.upd hm16 s
      rw [Nat.zero_add] at KF
      have HF2 : Hid (WordsF (wr.setCell ⟨S + 1 + 1 + 1 + 1, m, none⟩ (.int .u64 (s : Int))).drew (S + 1 + 1 + 1 + 1) 0 (updF g m s) 16) := KF
      have HA2 : Hid (WordsAt (wr.setCell ⟨S + 1 + 1 + 1 + 1, m, none⟩ (.int .u64 (s : Int))).drew S 0 a 8) := HA.out.set ⟨S + 1 + 1 + 1 + 1, m, none⟩ _ (by show S + 1 + 1 + 1 + 1 ≠ S; omega)
      have HB2 : Hid (WordsAt (wr.setCell ⟨S + 1 + 1 + 1 + 1, m, none⟩ (.int .u64 (s : Int))).drew (S + 1) 0 b 8) := HB.out.set ⟨S + 1 + 1 + 1 + 1, m, none⟩ _ (by show S + 1 + 1 + 1 + 1 ≠ S + 1; omega)
      have HX2 : Hid (WordsAt (wr.setCell ⟨S + 1 + 1 + 1 + 1, m, none⟩ (.int .u64 (s : Int))).drew (S + 1 + 1) 0 0 8) := HX.out.set ⟨S + 1 + 1 + 1 + 1, m, none⟩ _ (by show S + 1 + 1 + 1 + 1 ≠ S + 1 + 1; omega)
      have HY2 : Hid (WordsAt (wr.setCell ⟨S + 1 + 1 + 1 + 1, m, none⟩ (.int .u64 (s : Int))).drew (S + 1 + 1 + 1) 0 0 8) := HY.out.set ⟨S + 1 + 1 + 1 + 1, m, none⟩ _ (by show S + 1 + 1 + 1 + 1 ≠ S + 1 + 1 + 1; omega)
      have HW2 : Hid (Below S w (wr.setCell ⟨S + 1 + 1 + 1 + 1, m, none⟩ (.int .u64 (s : Int))).drew) := (HW.out.setCell (p := ⟨S + 1 + 1 + 1 + 1, m, none⟩) (by show S ≤ S + 1 + 1 + 1 + 1; omega) _).drew
      clear KF HF HA HB HX HY HW ca cb cf1 cf2
      generalize (wr.setCell ⟨S + 1 + 1 + 1 + 1, m, none⟩ (.int .u64 (s : Int))).drew = wc at *
      go_wp2_with fail
      go_roundg (8 - j)
      case measure => have := HJ.out; omega
      case rel =>
       refine ⟨j + 1, c2, updF g m s, rfl, by go_num, by show _ ∧ _; have := HJ.out; omega, HC2.out.symm, HA2, HB2, HX2, HY2, HF2, ⟨fun t ht => ?_, fun t ht => ?_, fun t ht ht2 => ?_⟩, HW2⟩
       ·rw [updF_other (by have := HMM.out; omega)]; exact HE.out.1 t ht
       ·by_cases e : t = j
        ·rw [e, HMM.out, updF_same]; exact HS.out.symm
        ·rw [updF_other (by have := HMM.out; omega)]; exact HE.out.2.1 t (by omega)
       ·rw [updF_other (by have := HMM.out; omega)]; exact HE.out.2.2 t (by omega) ht2
    ·obtain rfl : j = 8 := by have := HJ.out; omega
     obtain ⟨m, hm⟩ : ∃ m, i + 8 = m := ⟨_, rfl⟩
     have HMM := Lib.hid hm
     have hmz : (i : Int) + 8 = (m : Int) := by omega
     have hm16 : m < 16 := by omega
     have hmz16 : (m : Int) < 16 := by omega
     have hmw : IntKind.i64.wrap (m : Int) = (m : Int) := by rw [IntKind.wrap_i64]; omega
     have cf := HF.out m hm16
     rw [Nat.zero_add] at cf
     obtain ⟨cf1, cf2⟩ := cf
     clear hm
     have KF := HF.out.upd hm16 c
     rw [Nat.zero_add] at KF
     have HE3 : Hid (∀ t, t < 16 → updF g m c t = wd (rowQ a b (i + 1)) t) := by
      have := row_done hb.out HE.out.1 HE.out.2.1 HE.out.2.2
      rw [HMM.out, ← HC.out] at this
      exact this
     have HF2 : Hid (WordsF (wr.setCell ⟨S + 1 + 1 + 1 + 1, m, none⟩ (.int .u64 (c : Int))) (S + 1 + 1 + 1 + 1) 0 (updF g m c) 16) := KF
     have HA2 : Hid (WordsAt (wr.setCell ⟨S + 1 + 1 + 1 + 1, m, none⟩ (.int .u64 (c : Int))) S 0 a 8) := HA.out.set ⟨S + 1 + 1 + 1 + 1, m, none⟩ _ (by show S + 1 + 1 + 1 + 1 ≠ S; omega)
     have HB2 : Hid (WordsAt (wr.setCell ⟨S + 1 + 1 + 1 + 1, m, none⟩ (.int .u64 (c : Int))) (S + 1) 0 b 8) := HB.out.set ⟨S + 1 + 1 + 1 + 1, m, none⟩ _ (by show S + 1 + 1 + 1 + 1 ≠ S + 1; omega)
     have HX2 : Hid (WordsAt (wr.setCell ⟨S + 1 + 1 + 1 + 1, m, none⟩ (.int .u64 (c : Int))) (S + 1 + 1) 0 0 8) := HX.out.set ⟨S + 1 + 1 + 1 + 1, m, none⟩ _ (by show S + 1 + 1 + 1 + 1 ≠ S + 1 + 1; omega)
     have HY2 : Hid (WordsAt (wr.setCell ⟨S + 1 + 1 + 1 + 1, m, none⟩ (.int .u64 (c : Int))) (S + 1 + 1 + 1) 0 0 8) := HY.out.set ⟨S + 1 + 1 + 1 + 1, m, none⟩ _ (by show S + 1 + 1 + 1 + 1 ≠ S + 1 + 1 + 1; omega)
     have HW2 : Hid (Below S w (wr.setCell ⟨S + 1 + 1 + 1 + 1, m, none⟩ (.int .u64 (c : Int)))) := HW.out.setCell (p := ⟨S + 1 + 1 + 1 + 1, m, none⟩) (by show S ≤ S + 1 + 1 + 1 + 1; omega) _
     clear KF HF HA HB HX HY HW
     go_wp2_with fail
     go_roundg (L - i)
     case measure => have := HI.out; omega
     case rel => exact ⟨i + 1, updF g m c, by go_num, by show _ ∧ _; have := HI.out; omega, HA2, HB2, HX2, HY2, HF2, HE3, HW2⟩
  ·obtain rfl : i = L := by have := HI.out; omega
   have HQ : Hid (rowQ a b i = a * b) := rowQ_end (by have := lt_nlen (B := 18446744073709551616) (by decide) a; rw [← HL.out]; exact this)
   have HE2 := HE.out
   rw [HQ.out] at HE2
   have KP := HF.out.ext HE2
   obtain ⟨wp, hc1, X2, N1⟩ := copy_words wr.drew (S + 1 + 1) 0 (S + 1 + 1 + 1 + 1) 0 8 16 8 16 _ _ HX.out KP 8 rfl
   obtain ⟨q, hq⟩ : ∃ q, a * b / 18446744073709551616 ^ 8 = q := ⟨_, rfl⟩
   obtain ⟨wq, hc2, Y2, N2⟩ := copy_words wp.drew (S + 1 + 1 + 1) 0 (S + 1 + 1 + 1 + 1) 8 8 8 8 8 _ _ (HY.out.but N1.of_drew.drew (by omega)) ((KP.but N1.of_drew.drew (by omega)).sub 8 8 (by decide)) 8 rfl
   have X3 := (X2.but N2.of_drew (by omega)).ext (g := wd (a * b)) (fun t ht => by simp only [if_pos ht])
   have Y3 := Y2.ext (g := wd q) (fun t ht => by simp only [if_pos ht]; rw [← hq]; show dig _ _ _ = dig _ _ _; rw [dig_div, Nat.add_comm])
   have BW : Hid (Below S w wq) := N2.of_drew.2.1 S w (by omega) (N1.of_drew.2.1 S w (by omega) HW.out)
   obtain ⟨⟨x0, y0⟩, ⟨x1, y1⟩, ⟨x2, y2⟩, ⟨x3, y3⟩, ⟨x4, y4⟩, ⟨x5, y5⟩, ⟨x6, y6⟩, ⟨x7, y7⟩⟩ := X3.eight
   obtain ⟨⟨u0, v0⟩, ⟨u1, v1⟩, ⟨u2, v2⟩, ⟨u3, v3⟩, ⟨u4, v4⟩, ⟨u5, v5⟩, ⟨u6, v6⟩, ⟨u7, v7⟩⟩ := Y3.eight
   have hpost : ∀ e w', (e = Ending.returned (.tuple #[wordsV (a * b), wordsV q]) ∧ Below S w w') → (e = Ending.returned (.tuple #[wordsV (a * b), wordsV (a * b / 18446744073709551616 ^ 8)]) ∧ Below w.heap.size w w') := fun e w' h => by rw [hq, hS]; exact h
   have HPO := Lib.hid hpost
   clear KP HE2 HE HF HA HB HX HY X2 Y2 X3 Y3 N1 N2 HW hpost hq
   go_wp2_with fail
   go_region
   go_wp2_with fail
   go_region
   go_wp2_with fail
   refine bodyPost_ret (v := .tuple #[wordsV (a * b), wordsV q]) (by rw [results_cell2 rfl]; go_simp; exact ⟨rfl, rfl⟩) rfl ?_
   exact HPO.out _ _ ⟨rfl, below_set8 (b := S + 1 + 1 + 1) (below_set8 (b := S + 1 + 1) BW.out (by omega) _ _ _ _ _ _ _ _) (by omega) _ _ _ _ _ _ _ _⟩
end Go.Proofs.YtgkhjeefcflmcaaGreatDoor
