/-
  The contracts of the small functions on spans: empty, Check, Has, cmp.Compare, cmp.Or, Order, Meet, and the references' Check and Order; '==' of two spans.
-/
import Derived.Test.YtnbnohphdehfoaaEIs
import Derived.Test.YtnbnohphdehfoaaAppV
import Derived.Laws.StructEq
import Derived.Sort.Grow
import Derived.Deep.RegionWith
import Derived.Deep.RegionHeld
namespace Go.Proofs.Ytnbnohphdehfoaa
open Go.RowKit Go.Sort

/-- The number of the error that a span's check gives. -/
def chkOf (x y z : Int) : Nat := if y < x then 5 else if x < 0 ∨ z < y then 4 else 0
theorem chkOf_le (x y z : Int) : chkOf x y z ≤ 25 := by unfold chkOf; split <;> (try split) <;> omega
def cmpI (x y : Int) : Int := if x < y then -1 else if y < x then 1 else 0
def ordI (a b : Int × Int) : Int := if cmpI a.1 b.1 = 0 then cmpI a.2 b.2 else cmpI a.1 b.1
theorem eqSpan (a b c d : Int) (w : World) : (binOp .eql 23 (.agg #[.int .i64 a, .int .i64 b]) (.agg #[.int .i64 c, .int .i64 d])).run Try.prog w = .ok (.bool (a == c && b == d)) w := by
  have u3 := Try.underlying3
  have a3 := Try.isAgg3
  have z3 := Try.sizeOf3
  have hS : Try.prog.underlying 23 = some (.struct (Try.prog.fieldsOf 23)) := by kernel_rfl
  have hp : Try.prog.stoodInHeld 23 = false := by kernel_rfl
  rw [run_eql_struct, show (10000 : Nat) = 9999 + 1 from rfl, run_equalIn_agg w 9999 23 _ _ hS hp]
  simp only [Program.fieldsOf, Try.underlying23]
  go_simp
  by_cases h1 : a = c <;> by_cases h2 : b = d <;> simp [h1, h2]
set_option maxHeartbeats 1000000 in
theorem empty_run (x y : Int) (b : Bool) (hb : Hid (decide (y ≤ x) = b)) (w : World) : Calls Try.prog 26 #[.agg #[.int .i64 x, .int .i64 y]] w fun e w' => e = .returned (.bool b) ∧ ∃ os, w' = grow w os := by
  go_enter Try.func26, Try.ntmps26
  go_wp2
  go_ret
  exact ⟨ret_bool hb.out, _, alloc_eq_grow _ _⟩
set_option maxHeartbeats 2000000 in
theorem check_run (x y z : Int) (w : World) : Calls Try.prog 9 #[.agg #[.int .i64 x, .int .i64 y], .int .i64 z] w fun e w' => e = .returned (errOf (chkOf x y z)) ∧ ∃ os, w' = grow w os := by
  by_cases h1 : y < x
  · rw [show chkOf x y z = 5 by unfold chkOf; rw [if_pos h1]]
    go_enter Try.func9, Try.ntmps9
    go_wp2
    go_ret
    exact ⟨rfl, _, alloc_eq_grow _ _⟩
  · have h1' : decide (y < x) = false := by simpa using h1
    by_cases h2 : x < 0
    · rw [show chkOf x y z = 4 by unfold chkOf; rw [if_neg h1, if_pos (.inl h2)]]
      go_enter Try.func9, Try.ntmps9
      go_wp2
      go_ret
      exact ⟨rfl, _, alloc_eq_grow _ _⟩
    · have h2' : decide (x < 0) = false := by simpa using h2
      by_cases h3 : z < y
      · rw [show chkOf x y z = 4 by unfold chkOf; rw [if_neg h1, if_pos (.inr h3)]]
        go_enter Try.func9, Try.ntmps9
        go_wp2
        go_ret
        exact ⟨rfl, _, alloc_eq_grow _ _⟩
      · rw [show chkOf x y z = 0 by unfold chkOf; rw [if_neg h1, if_neg (by omega)]]
        have h3' : decide (z < y) = false := by simpa using h3
        go_enter Try.func9, Try.ntmps9
        go_wp2
        go_ret
        exact ⟨rfl, _, alloc_eq_grow _ _⟩
set_option maxHeartbeats 2000000 in
theorem refCheck_run (x y z : Int) (w : World) : Calls Try.prog 10 #[.agg #[.int .i64 x, .int .i64 y], .int .i64 z] w fun e w' => e = .returned (.int .i64 (chkOf x y z)) ∧ ∃ os, w' = grow w os := by
  unfold chkOf
  by_cases h1 : y < x
  · rw [if_pos h1]
    go_enter Try.func10, Try.ntmps10
    go_wp2
    go_ret
    exact ⟨rfl, _, alloc_eq_grow _ _⟩
  · rw [if_neg h1]
    have h1' : decide (y < x) = false := by simpa using h1
    by_cases h2 : x < 0
    · rw [if_pos (.inl h2)]
      go_enter Try.func10, Try.ntmps10
      go_wp2
      go_ret
      exact ⟨rfl, _, alloc_eq_grow _ _⟩
    · have h2' : decide (x < 0) = false := by simpa using h2
      by_cases h3 : z < y
      · rw [if_pos (.inr h3)]
        go_enter Try.func10, Try.ntmps10
        go_wp2
        go_ret
        exact ⟨rfl, _, alloc_eq_grow _ _⟩
      · rw [if_neg (by omega)]
        have h3' : decide (z < y) = false := by simpa using h3
        go_enter Try.func10, Try.ntmps10
        go_wp2
        go_ret
        exact ⟨rfl, _, alloc_eq_grow _ _⟩
set_option maxHeartbeats 1000000 in
theorem has_run (x y z : Int) (b : Bool) (hb : Hid (decide (x ≤ z ∧ z < y) = b)) (w : World) : Calls Try.prog 11 #[.agg #[.int .i64 x, .int .i64 y], .int .i64 z] w fun e w' => e = .returned (.bool b) ∧ ∃ os, w' = grow w os := by
  by_cases h1 : x ≤ z
  · by_cases h2 : z < y
    · go_enter Try.func11, Try.ntmps11
      go_wp2
      go_ret
      exact ⟨ret_bool (by rw [← hb.out]; simp [h1, h2]), _, alloc_eq_grow _ _⟩
    · have h2' : decide (z < y) = false := by simpa using h2
      go_enter Try.func11, Try.ntmps11
      go_wp2
      go_ret
      exact ⟨ret_bool (by rw [← hb.out]; simp; omega), _, alloc_eq_grow _ _⟩
  · have h1' : decide (x ≤ z) = false := by simpa using h1
    go_enter Try.func11, Try.ntmps11
    go_wp2
    go_ret
    exact ⟨ret_bool (by rw [← hb.out]; simp; omega), _, alloc_eq_grow _ _⟩
set_option maxHeartbeats 2000000 in
theorem compare_run (x y : Int) (w : World) : Calls Try.prog 29 #[.int .i64 x, .int .i64 y] w fun e w' => e = .returned (.int .i64 (cmpI x y)) ∧ w = w' := by
  have hx : (x != x) = false := by simp
  have hy : (y != y) = false := by simp
  unfold cmpI
  by_cases h1 : x < y
  · rw [if_pos h1]
    go_enter Try.func29, Try.ntmps29
    go_wp2
    go_ret
    exact ⟨rfl, rfl⟩
  · rw [if_neg h1]
    by_cases h2 : y < x
    · rw [if_pos h2]
      go_enter Try.func29, Try.ntmps29
      go_wp2
      go_ret
      exact ⟨rfl, rfl⟩
    · rw [if_neg h2]
      go_enter Try.func29, Try.ntmps29
      go_wp2
      go_ret
      exact ⟨rfl, rfl⟩
set_option maxHeartbeats 2000000 in
theorem or_run (b : Nat) (x y : Int) (w : World) (h0 : w.cell? ⟨b, 0, none⟩ = some (.int .i64 x)) (h1 : w.cell? ⟨b, 1, none⟩ = some (.int .i64 y)) :
    Calls Try.prog 28 #[.slice (some ⟨b, 0, none⟩) 2 2] w fun e w' => e = .returned (.int .i64 (if x = 0 then y else x)) ∧ w = w' := by
  by_cases hx : x = 0
  · subst hx
    rw [if_pos rfl]
    by_cases hy : y = 0
    · subst hy
      go_enter Try.func28, Try.ntmps28
      go_wp2
      refine wp_loop_rounds 3 ?_
      rw [rounds_succ]
      go_wp2
      rw [rounds_succ]
      go_wp2
      rw [rounds_succ]
      go_wp2
      go_ret
      exact ⟨rfl, rfl⟩
    · have hy' : (y != 0) = true := by simpa using hy
      go_enter Try.func28, Try.ntmps28
      go_wp2
      refine wp_loop_rounds 2 ?_
      rw [rounds_succ]
      go_wp2
      rw [rounds_succ]
      go_wp2
      go_ret
      exact ⟨rfl, rfl⟩
  · rw [if_neg hx]
    have hx' : (x != 0) = true := by simpa using hx
    go_enter Try.func28, Try.ntmps28
    go_wp2
    refine wp_loop_rounds 1 ?_
    rw [rounds_succ]
    go_wp2
    go_ret
    exact ⟨rfl, rfl⟩
set_option maxHeartbeats 8000000 in
theorem order_run (a b c d : Int) (w : World) : Calls Try.prog 13 #[.agg #[.int .i64 a, .int .i64 b], .agg #[.int .i64 c, .int .i64 d]] w fun e w' => e = .returned (.int .i64 (ordI (a, b) (c, d))) ∧ ∃ q os, w' = grow (w.drewN q) os := by
  obtain ⟨r, hr⟩ : ∃ r, r = ordI (a, b) (c, d) := ⟨_, rfl⟩
  have HO : Hid (∀ (g : Nat) (w : World), w.cell? ⟨g, 0, none⟩ = some (.int .i64 (cmpI a c)) → w.cell? ⟨g, 1, none⟩ = some (.int .i64 (cmpI b d)) → Calls Try.prog 28 #[.slice (some ⟨g, 0, none⟩) 2 2] w fun e w' => e = .returned (.int .i64 r) ∧ w = w') :=
    fun g w h0 h1 => (or_run g _ _ w h0 h1).mono fun _ _ ⟨he, hw⟩ => ⟨he.trans (by rw [hr]; rfl), hw⟩
  rw [← hr]
  clear hr
  go_enter Try.func13, Try.ntmps13
  go_wp2_with fail
  go_region_held (fun w' => w'.cell? ⟨w.heap.size, 0, none⟩ = some (.int .i64 a) ∧ w'.cell? ⟨w.heap.size, 1, none⟩ = some (.int .i64 b) ∧ w'.cell? ⟨w.heap.size + 1, 0, none⟩ = some (.int .i64 c) ∧ w'.cell? ⟨w.heap.size + 1, 1, none⟩ = some (.int .i64 d)) (go_keep)
    (first
    | (go_at_call 28; refine (HO.out _ _ (by go_simp) (by go_simp)).mono ?_; rintro e w1 ⟨rfl, rfl⟩)
    | (go_at_call 29; refine (compare_run _ _ _).mono ?_; rintro e w1 ⟨rfl, rfl⟩))
  all_goals go_wp2
  all_goals go_ret
  all_goals exact ⟨rfl, 1, _, by rw [alloc_eq_grow, alloc_eq_grow, alloc_eq_grow, grow_grow, grow_grow]; rfl⟩
set_option maxHeartbeats 2000000 in
theorem refOrder_run (a b c d : Int) (w : World) : Calls Try.prog 14 #[.agg #[.int .i64 a, .int .i64 b], .agg #[.int .i64 c, .int .i64 d]] w fun e w' => e = .returned (.int .i64 (ordI (a, b) (c, d))) ∧ ∃ os, w' = grow w os := by
  have hE := eqSpan
  have al : ∀ (w : World) (o p : Obj), ∃ os, (w.alloc o).alloc p = grow w os := fun w o p => ⟨_, by rw [alloc_eq_grow, alloc_eq_grow, grow_grow]⟩
  rcases Int.lt_trichotomy a c with h | h | h
  · rw [show ordI (a, b) (c, d) = -1 by unfold ordI cmpI; simp [h]]
    have h1 : decide (a < c) = true := by simpa using h
    go_enter Try.func14, Try.ntmps14
    go_wp2
    go_ret
    exact ⟨rfl, al _ _ _⟩
  · subst h
    have h1 : decide (a < a) = false := by simp
    have h2 : (a == a) = true := by simp
    rcases Int.lt_trichotomy b d with h | h | h
    · rw [show ordI (a, b) (a, d) = -1 by unfold ordI cmpI; simp [h]]
      have h3 : decide (b < d) = true := by simpa using h
      go_enter Try.func14, Try.ntmps14
      go_wp2
      go_ret
      exact ⟨rfl, al _ _ _⟩
    · subst h
      rw [show ordI (a, b) (a, b) = 0 by unfold ordI cmpI; simp]
      have h3 : decide (b < b) = false := by simp
      have h4 : (b == b) = true := by simp
      go_enter Try.func14, Try.ntmps14
      go_wp2
      go_ret
      exact ⟨rfl, al _ _ _⟩
    · rw [show ordI (a, b) (a, d) = 1 by unfold ordI cmpI; simp; omega]
      have h3 : decide (b < d) = false := by simp; omega
      have h4 : (b == d) = false := by simp; omega
      go_enter Try.func14, Try.ntmps14
      go_wp2
      go_ret
      exact ⟨rfl, al _ _ _⟩
  · rw [show ordI (a, b) (c, d) = 1 by unfold ordI cmpI; rw [if_neg (show ¬ a < c by omega), if_pos h]; simp]
    have h1 : decide (a < c) = false := by simp; omega
    have h2 : (a == c) = false := by simp; omega
    go_enter Try.func14, Try.ntmps14
    go_wp2
    go_ret
    exact ⟨rfl, al _ _ _⟩
theorem ord_lt (x y : Int × Int) : ordI x y < 0 ↔ x.1 < y.1 ∨ (x.1 = y.1 ∧ x.2 < y.2) := by
  unfold ordI cmpI
  repeat' split
  all_goals omega
end Go.Proofs.Ytnbnohphdehfoaa
