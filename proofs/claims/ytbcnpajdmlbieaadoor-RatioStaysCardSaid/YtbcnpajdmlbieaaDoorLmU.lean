/-
  Stage 7: limb's Of.
-/
import Derived.Test.YtbcnpajdmlbieaaDoorLmL
namespace Go.Proofs.YtbcnpajdmlbieaaDoor
open Go.RowKit Go.Sort

theorem wd_small {k : Nat} (h : k < 18446744073709551616) : wd k 0 = k ∧ ∀ i, wd k (i + 1) = 0 := by
  refine ⟨?_, fun i => ?_⟩
  · show k / 18446744073709551616 ^ 0 % 18446744073709551616 = k
    rw [Nat.pow_zero, Nat.div_one, Nat.mod_eq_of_lt h]
  · show k / 18446744073709551616 ^ (i + 1) % 18446744073709551616 = 0
    rw [Nat.div_eq_of_lt (Nat.lt_of_lt_of_le h (Nat.le_self_pow (Nat.succ_ne_zero i) _)), Nat.zero_mod]
theorem wd_small' {k : Nat} (h : k < 18446744073709551616) : wd k 0 = k ∧ wd k 1 = 0 ∧ wd k 2 = 0 ∧ wd k 3 = 0 ∧ wd k 4 = 0 ∧ wd k 5 = 0 ∧ wd k 6 = 0 ∧ wd k 7 = 0 :=
  ⟨(wd_small h).1, (wd_small h).2 0, (wd_small h).2 1, (wd_small h).2 2, (wd_small h).2 3, (wd_small h).2 4, (wd_small h).2 5, (wd_small h).2 6⟩
theorem intV_small {k : Nat} (h : k < 18446744073709551616) (s : Bool) : intV s k = .agg #[.bool s, .int .u64 (k : Int), .int .u64 0, .int .u64 0, .int .u64 0, .int .u64 0, .int .u64 0, .int .u64 0, .int .u64 0] := by
  obtain ⟨h0, h1, h2, h3, h4, h5, h6, h7⟩ := wd_small' h
  simp only [intV, h0, h1, h2, h3, h4, h5, h6, h7, Int.natCast_zero]

set_option maxRecDepth 100000 in
set_option maxHeartbeats 2000000 in
theorem Of_run (z : Int) (w : World) (h1 : -9223372036854775808 ≤ z) (h2 : z < 9223372036854775808) :
    Calls Tryd.prog 13 #[.int .i64 z] w fun e w' => e = .returned (intV (decide (z < 0)) z.natAbs) ∧ Below w.heap.size w w' := by
  obtain ⟨k, hk⟩ : ∃ k, z.natAbs = k := ⟨_, rfl⟩
  have hk2 : k < 18446744073709551616 := by omega
  rw [hk, intV_small hk2]
  obtain ⟨S, hS⟩ : ∃ S, w.heap.size = S := ⟨_, rfl⟩
  rw [hS]
  by_cases hz : z < 0
  · obtain ⟨c, hc⟩ : ∃ c, z + 18446744073709551616 = c := ⟨_, rfl⟩
    have r1 : IntKind.u64.wrap z = c := by rw [IntKind.wrap_u64]; omega
    have r2 : IntKind.u64.wrap (-c) = (k : Int) := by rw [IntKind.wrap_u64]; omega
    have r3 : decide (z < 0) = true := decide_eq_true hz
    rw [r3]
    clear hk hc h1 h2 hk2
    go_enter Tryd.func13, Tryd.ntmps13
    go_wp2_with fail
    refine bodyPost_ret (v := .agg #[.bool true, .int .u64 (k : Int), .int .u64 0, .int .u64 0, .int .u64 0, .int .u64 0, .int .u64 0, .int .u64 0, .int .u64 0]) (by rw [results_cell1 rfl]; go_simp) rfl ⟨rfl, ?_⟩
    exact ((Below.refl S w).alloc (Nat.le_of_eq hS.symm) _).alloc (by simp; omega) _
  · have r1 : IntKind.u64.wrap z = (k : Int) := by rw [IntKind.wrap_u64]; omega
    have r3 : decide (z < 0) = false := decide_eq_false hz
    rw [r3]
    clear hk h1 h2 hk2
    go_enter Tryd.func13, Tryd.ntmps13
    go_wp2_with fail
    refine bodyPost_ret (v := .agg #[.bool false, .int .u64 (k : Int), .int .u64 0, .int .u64 0, .int .u64 0, .int .u64 0, .int .u64 0, .int .u64 0, .int .u64 0]) (by rw [results_cell1 rfl]; go_simp) rfl ⟨rfl, ?_⟩
    exact ((Below.refl S w).alloc (Nat.le_of_eq hS.symm) _).alloc (by simp; omega) _
end Go.Proofs.YtbcnpajdmlbieaaDoor
