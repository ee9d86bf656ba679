/-
  The contract of span.Meet.
-/
import Derived.Test.YtnbnohphdehfoaaSpA
namespace Go.Proofs.Ytnbnohphdehfoaa
open Go.RowKit Go.Sort

theorem below_grow {B : Nat} {w w1 : World} (h : Below B w w1) (hB : B ≤ w1.heap.size) (os : Array Obj) : Below B w (grow w1 os) :=
  h.trans ⟨rfl, rfl, rfl, by simp, fun k hk => heap_grow_old _ _ (by omega)⟩
theorem below_drewG {w : World} (q : Nat) (os : Array Obj) : Below w.heap.size w (grow (w.drewN q) os) := below_grow (below_drewN (Below.refl _ _) q) (Nat.le_refl _) os
set_option maxHeartbeats 8000000 in
theorem meet_run (a b c d m n : Int) (z : Bool) (w : World) (hm : m = if z then max a c else 0) (hn : n = if z then min b d else 0) (hz : decide (max a c < min b d) = z) :
    Calls Try.prog 7 #[.agg #[.int .i64 a, .int .i64 b], .agg #[.int .i64 c, .int .i64 d]] w fun e w' => e = .returned (.tuple #[.agg #[.int .i64 m, .int .i64 n], .bool z]) ∧ Below w.heap.size w w' := by
  have HE : Hid (∀ x y b, Hid (decide (y ≤ x) = b) → ∀ W, Calls Try.prog 26 #[.agg #[.int .i64 x, .int .i64 y]] W fun e w' => e = .returned (.bool b) ∧ Below W.heap.size W w') :=
    fun x y b hb W => (empty_run x y b hb W).mono fun _ _ ⟨he, os, hw⟩ => ⟨he, hw ▸ below_grow (Below.refl _ _) (Nat.le_refl _) os⟩
  obtain ⟨lo, hlo⟩ : ∃ lo, lo = max a c := ⟨_, rfl⟩
  obtain ⟨hi, hhi⟩ : ∃ hi, hi = min b d := ⟨_, rfl⟩
  rw [← hlo] at hm hz
  rw [← hhi] at hn hz
  have HC : Hid (decide (hi ≤ lo) = !z) := by
    show _ = _
    rw [← hz]
    by_cases h : lo < hi
    · rw [decide_eq_true h, decide_eq_false (by omega)]; rfl
    · rw [decide_eq_false h, decide_eq_true (by omega)]; rfl
  have d1 : (a < c ∧ lo = c) ∨ (¬ a < c ∧ lo = a) := by omega
  have d2 : (d < b ∧ hi = d) ∨ (¬ d < b ∧ hi = b) := by omega
  clear hlo hhi hz
  have al : ∀ (o1 o2 o3 o4 : Obj) (w1 : World), Below ((((w.alloc o1).alloc o2).alloc o3).alloc o4).heap.size ((((w.alloc o1).alloc o2).alloc o3).alloc o4) w1 → ∀ v1 v2, Below w.heap.size w ((w1.setCell ⟨w.heap.size + 1 + 1, 0, none⟩ v1).setCell ⟨w.heap.size + 1 + 1, 1, none⟩ v2) := fun o1 o2 o3 o4 w1 h v1 v2 =>
    ((((((Below.refl _ w).alloc (Nat.le_refl _) o1).alloc (by simp) o2).alloc (by simp; omega) o3).alloc (by simp; omega) o4).trans (h.mono (by simp; omega))).setCell (by simp; omega) _ |>.setCell (by simp; omega) _
  rcases d1 with ⟨h1, rfl⟩ | ⟨h1, rfl⟩ <;> rcases d2 with ⟨h2, rfl⟩ | ⟨h2, rfl⟩
  all_goals cases z
  all_goals simp only [if_true, if_false, Bool.false_eq_true] at hm hn
  all_goals subst hm hn
  all_goals go_enter Try.func7, Try.ntmps7
  all_goals go_wp2_with fail
  all_goals refine (HE.out _ _ _ HC _).mono ?_
  all_goals rintro e w1 ⟨rfl, hw1⟩
  all_goals have g0 : w1.cell? ⟨w.heap.size + 1 + 1, 0, none⟩ = some (.int .i64 0) := (hw1.cell (p := ⟨w.heap.size + 1 + 1, 0, none⟩) (by simp)).trans (by go_simp)
  all_goals have g1 : w1.cell? ⟨w.heap.size + 1 + 1, 1, none⟩ = some (.int .i64 0) := (hw1.cell (p := ⟨w.heap.size + 1 + 1, 1, none⟩) (by simp)).trans (by go_simp)
  all_goals have f0 : w1.frozen? ⟨w.heap.size + 1 + 1, 0, none⟩ = false := (hw1.frozen (p := ⟨w.heap.size + 1 + 1, 0, none⟩) (by simp)).trans (by go_simp)
  all_goals have f1 : w1.frozen? ⟨w.heap.size + 1 + 1, 1, none⟩ = false := (hw1.frozen (p := ⟨w.heap.size + 1 + 1, 1, none⟩) (by simp)).trans (by go_simp)
  all_goals have c0 := (hw1.cell (p := ⟨w.heap.size + 1 + 1 + 1, 0, none⟩) (by simp)).trans (World.cell?_alloc_at _ _ _ _ (by simp))
  all_goals have c1 := (hw1.cell (p := ⟨w.heap.size + 1 + 1 + 1, 1, none⟩) (by simp)).trans (World.cell?_alloc_at _ _ _ _ (by simp))
  all_goals have AL := Lib.hid (al _ _ _ _ _ hw1)
  all_goals clear al hw1
  all_goals go_wp2_with fail
  all_goals (try simp only [Exit.inBlock, Exit.then])
  all_goals first
    | (refine bodyPost_ret (v := .tuple #[.agg #[.int .i64 m, .int .i64 n], .bool true]) (by rw [results_cell_tmp rfl]; go_simp; try rfl) rfl ⟨rfl, AL.out _ _⟩)
    | (refine bodyPost_ret (v := .tuple #[.agg #[.int .i64 0, .int .i64 0], .bool false]) (by rw [results_cell_tmp rfl]; go_simp; try rfl) rfl ⟨rfl, AL.out _ _⟩)
end Go.Proofs.Ytnbnohphdehfoaa
