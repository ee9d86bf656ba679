/-
  The places of bytes: each has a line and a column, whose offset it is; and how these go on from one place to the next.
-/
import Derived.Test.YtihdljadggoimaaLnLawC
namespace Go.Proofs.Ytihdljadggoimaa
open Go.RowKit

namespace Ln
/-- The line and the column of a place. -/
def lin (b : List Int) (p : Nat) : Int := (lineOf (starts b) p : Nat)
def col (b : List Int) (p : Nat) : Int := p - (starts b).getD (lineOf (starts b) p - 1) 0 + 1
/-- What the walk over the places bears ahead of a place. -/
def pre (b : List Int) (p : Nat) : Int × Int := if p = 0 then (1, 0) else (lin b (p - 1), col b (p - 1))
theorem pre_zero (b : List Int) : pre b 0 = (1, 0) := rfl
theorem pre_succ (b : List Int) (p : Nat) : pre b (p + 1) = (lin b p, col b p) := by
  unfold pre
  rw [if_neg (by omega), Nat.add_sub_cancel]
/-- A place at which a line begins. -/
theorem start_is {S : List Int} (hs : Sorted S) {i : Nat} {x : Int} (hx : S[i]? = some x) : S.getD (lineOf S x - 1) 0 = x ∧ lineOf S x = i + 1 := by
  have h1 := (lineOf_iff hs hx (off := x)).1 (Int.le_refl _)
  have hle := lineOf_le S x
  have hj : lineOf S x - 1 < S.length := by omega
  have hy : S[lineOf S x - 1]? = some S[lineOf S x - 1] := List.getElem?_eq_getElem hj
  have h2 := (lineOf_iff hs hy (off := x)).2 (by omega)
  rcases Nat.lt_or_ge i (lineOf S x - 1) with hlt | hge
  · have := hs i _ x _ hlt hx hy
    omega
  · have e : lineOf S x - 1 = i := by omega
    rw [e]
    exact ⟨by simp [List.getD, hx], by omega⟩
theorem pre_new (b : List Int) (p : Nat) (h : b[p]? = some 10) : lin b (p + 1) = lin b p + 1 ∧ col b (p + 1) = 1 := by
  have hs := lineOf_step b p
  rw [if_pos h] at hs
  have hm : ((p : Int) + 1) ∈ starts b := mem_starts.2 (.inr ⟨p, h, rfl⟩)
  obtain ⟨i, hi⟩ := List.getElem?_of_mem hm
  have := (start_is (starts_valid b).2.2 hi).1
  unfold lin col
  have e : ((p + 1 : Nat) : Int) = (p : Int) + 1 := by omega
  rw [e]
  refine ⟨by rw [hs]; omega, ?_⟩
  rw [this]
  omega
theorem pre_same (b : List Int) (p : Nat) (h : b[p]? ≠ some 10) : lin b (p + 1) = lin b p ∧ col b (p + 1) = col b p + 1 := by
  have hs := lineOf_step b p
  rw [if_neg h] at hs
  unfold lin col
  have e : ((p + 1 : Nat) : Int) = (p : Int) + 1 := by omega
  rw [e, hs]
  refine ⟨rfl, ?_⟩
  simp only [Nat.add_zero]
  generalize (starts b).getD (lineOf (starts b) p - 1) 0 = x
  omega
theorem first (b : List Int) : lin b 0 = 1 ∧ col b 0 = 1 := by
  have h := lineOf_zero b
  unfold lin col
  have e : ((0 : Nat) : Int) = 0 := rfl
  rw [e, h]
  simp [starts]
theorem lin_bd (b : List Int) (p : Nat) : 0 ≤ lin b p ∧ lin b p ≤ b.length + 1 := by
  have h1 := lineOf_le (starts b) p
  have h2 := starts_length b
  unfold lin
  omega
theorem col_bd (b : List Int) (p : Nat) : -(b.length : Int) ≤ col b p ∧ col b p ≤ p + 1 := by
  have h : 0 ≤ (starts b).getD (lineOf (starts b) p - 1) 0 ∧ (starts b).getD (lineOf (starts b) p - 1) 0 ≤ b.length := by
    rcases Nat.lt_or_ge (lineOf (starts b) p - 1) (starts b).length with h | h
    · have hx : (starts b)[lineOf (starts b) p - 1]? = some (starts b)[lineOf (starts b) p - 1] := List.getElem?_eq_getElem h
      have e : (starts b).getD (lineOf (starts b) p - 1) 0 = (starts b)[lineOf (starts b) p - 1] := by simp [List.getD, hx]
      rw [e]
      rcases mem_starts.1 (List.mem_of_getElem? hx) with h | ⟨k, hk, h⟩
      · omega
      · have := (List.getElem?_eq_some_iff.1 hk).1
        omega
    · have e : (starts b)[lineOf (starts b) p - 1]? = none := List.getElem?_eq_none h
      simp [List.getD, e]
  unfold col
  omega
end Ln
theorem posOut_made (b : List Int) (p : Nat) (hp : p ≤ b.length) : posOut true (Ln.starts b) b.length p = (Ln.lin b p, Ln.col b p, 0) := by
  unfold posOut
  rw [if_neg (by simp), if_neg (by omega)]
  rfl
theorem offOut_made (b : List Int) (p : Nat) (hp : p ≤ b.length) : offOut true (Ln.starts b) b.length (Ln.lin b p) (Ln.col b p) = ((p : Int), 0) := by
  obtain ⟨j, x, hj, hjl, hx, hx0, hxp, hgd⟩ := line_at (Ln.starts_valid b) (show (0 : Int) ≤ p by omega)
  have hlin : Ln.lin b p = (j : Int) + 1 := by unfold Ln.lin; rw [hj]; omega
  have hcol : Ln.col b p = p - x + 1 := by unfold Ln.col; rw [hj, Nat.add_sub_cancel, hgd]
  rw [hlin, hcol]
  have hlo := lineOut_made b j hjl
  have hxd : (Ln.starts b).getD j b.length = x := by simp [List.getD, hx]
  rw [hxd] at hlo
  rw [offOut_in hlo]
  · simp; omega
  · refine ⟨by omega, ?_⟩
    by_cases hm : j + 1 < (Ln.starts b).length
    · left
      have hy : (Ln.starts b)[j + 1]? = some (Ln.starts b)[j + 1] := List.getElem?_eq_getElem hm
      have := Ln.lineOf_iff (Ln.starts_valid b).2.2 hy (off := (p : Int))
      rw [hj] at this
      have h2 : ¬ ((Ln.starts b)[j + 1] ≤ (p : Int)) := fun h => by have := this.1 h; omega
      simp [List.getD, hy]
      omega
    · have hnone : (Ln.starts b)[j + 1]? = none := List.getElem?_eq_none (by omega)
      simp [List.getD, hnone]
      omega
end Go.Proofs.Ytihdljadggoimaa
