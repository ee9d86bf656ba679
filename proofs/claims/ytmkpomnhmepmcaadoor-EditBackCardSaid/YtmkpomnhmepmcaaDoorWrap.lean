/-
  Sums that wrap around: where a sum is brought back into an int's range does not matter to the end.
-/
import Derived.Test.YtmkpomnhmepmcaaDoorBase
namespace Go.Proofs.YtmkpomnhmepmcaaDoor
open Go.RowKit
namespace Wr

/-- An int's sum, brought into its range. -/
abbrev w (x : Int) : Int := IntKind.i64.wrap x
theorem w_eq (x : Int) : w x = (x + 9223372036854775808) % 18446744073709551616 - 9223372036854775808 := by
  show IntKind.i64.wrap x = _
  rw [IntKind.wrap_i64]
theorem w_in {x : Int} (h1 : -9223372036854775808 ≤ x) (h2 : x ≤ 9223372036854775807) : w x = x := by rw [w_eq]; omega
theorem w_lo (x : Int) : -9223372036854775808 ≤ w x ∧ w x ≤ 9223372036854775807 := by rw [w_eq]; omega
theorem w_w (x : Int) : w (w x) = w x := by simp only [w_eq]; omega
theorem add_l (a b : Int) : w (w a + b) = w (a + b) := by simp only [w_eq]; omega
theorem add_r (a b : Int) : w (a + w b) = w (a + b) := by simp only [w_eq]; omega
theorem sub_l (a b : Int) : w (w a - b) = w (a - b) := by simp only [w_eq]; omega
theorem sub_r (a b : Int) : w (a - w b) = w (a - b) := by simp only [w_eq]; omega
theorem neg_w (a : Int) : w (-(w a)) = w (-a) := by simp only [w_eq]; omega
theorem congr {a b : Int} (h : ∃ k, a = b + k * 18446744073709551616) : w a = w b := by
  obtain ⟨k, rfl⟩ := h
  simp only [w_eq]
  omega
/-- The walk's own spelling. -/
theorem w_wrap64 (x : Int) : wrap64 x = w x := by rw [w_eq, wrap64]
end Wr
end Go.Proofs.YtmkpomnhmepmcaaDoor
