/-
  Layer 11 (scan): Letter of both, isDigit; the document's two and Comment.
-/
import Derived.Test.YtgkhjeefcflmcaaGreatDoorMt32
import Derived.Test.YtgkhjeefcflmcaaGreatDoorMt08
namespace Go.Proofs.YtgkhjeefcflmcaaGreatDoor
open Go.RowKit Go.Sort
set_option linter.unusedSimpArgs false
set_option linter.unusedVariables false
set_option maxRecDepth 100000 in
set_option maxHeartbeats 2000000 in
theorem LetterP_run (r : Int) (w : World) : Calls Tryz.prog 14 #[.int .i32 r] w fun e w' => e = .returned (.bool (letB r)) ∧ w' = w := by
 rcases (by omega : (r ≤ 64) ∨ (65 ≤ r ∧ r ≤ 90) ∨ (91 ≤ r ∧ r ≤ 94) ∨ (r = 95) ∨ (r = 96) ∨ (97 ≤ r ∧ r ≤ 122) ∨ (123 ≤ r ∧ r ≤ 191) ∨ (192 ≤ r ∧ r ≤ 214) ∨ (r = 215) ∨ (216 ≤ r ∧ r ≤ 246) ∨ (r = 247) ∨ (248 ≤ r ∧ r ≤ 591) ∨ (592 ≤ r)) with h | h | h | rfl | rfl | h | h | h | rfl | h | rfl | h | h
 ·have hv : letB r = false := by
   unfold letB
   rw [if_neg (by omega)]
   exact decide_eq_false (by omega)
  rw [hv]
  have f1 : ¬ (97 : Int) ≤ r := by omega
  have f2 : ¬ (65 : Int) ≤ r := by omega
  have f3 : ¬ (192 : Int) ≤ r := by omega
  have f4 : r ≤ (90 : Int) := by omega
  have f5 : r ≤ (122 : Int) := by omega
  have f6 : r ≤ (591 : Int) := by omega
  have f7 : (r == (95 : Int)) = false := beq_eq_false_iff_ne.2 (by omega)
  have f8 : (r == (215 : Int)) = false := beq_eq_false_iff_ne.2 (by omega)
  have f9 : (r == (247 : Int)) = false := beq_eq_false_iff_ne.2 (by omega)
  clear hv h
  go_enter Tryz.func14, Tryz.ntmps14
  go_wp2_with fail
  go_ret
  exact ⟨rfl, rfl⟩
 ·have hv : letB r = true := by
   unfold letB
   rw [if_pos (by omega)]
  rw [hv]
  have f1 : ¬ (97 : Int) ≤ r := by omega
  have f2 : (65 : Int) ≤ r := by omega
  have f3 : ¬ (192 : Int) ≤ r := by omega
  have f4 : r ≤ (90 : Int) := by omega
  have f5 : r ≤ (122 : Int) := by omega
  have f6 : r ≤ (591 : Int) := by omega
  have f7 : (r == (95 : Int)) = false := beq_eq_false_iff_ne.2 (by omega)
  have f8 : (r == (215 : Int)) = false := beq_eq_false_iff_ne.2 (by omega)
  have f9 : (r == (247 : Int)) = false := beq_eq_false_iff_ne.2 (by omega)
  clear hv h
  go_enter Tryz.func14, Tryz.ntmps14
  go_wp2_with fail
  go_ret
  exact ⟨rfl, rfl⟩
 ·have hv : letB r = false := by
   unfold letB
   rw [if_neg (by omega)]
   exact decide_eq_false (by omega)
  rw [hv]
  have f1 : ¬ (97 : Int) ≤ r := by omega
  have f2 : (65 : Int) ≤ r := by omega
  have f3 : ¬ (192 : Int) ≤ r := by omega
  have f4 : ¬ r ≤ (90 : Int) := by omega
  have f5 : r ≤ (122 : Int) := by omega
  have f6 : r ≤ (591 : Int) := by omega
  have f7 : (r == (95 : Int)) = false := beq_eq_false_iff_ne.2 (by omega)
  have f8 : (r == (215 : Int)) = false := beq_eq_false_iff_ne.2 (by omega)
  have f9 : (r == (247 : Int)) = false := beq_eq_false_iff_ne.2 (by omega)
  clear hv h
  go_enter Tryz.func14, Tryz.ntmps14
  go_wp2_with fail
  go_ret
  exact ⟨rfl, rfl⟩
 ·rw [show letB 95 = true by decide]
  go_enter Tryz.func14, Tryz.ntmps14
  go_wp2_with fail
  go_ret
  exact ⟨rfl, rfl⟩
 ·rw [show letB 96 = false by decide]
  go_enter Tryz.func14, Tryz.ntmps14
  go_wp2_with fail
  go_ret
  exact ⟨rfl, rfl⟩
 ·have hv : letB r = true := by
   unfold letB
   rw [if_pos (by omega)]
  rw [hv]
  have f1 : (97 : Int) ≤ r := by omega
  have f2 : (65 : Int) ≤ r := by omega
  have f3 : ¬ (192 : Int) ≤ r := by omega
  have f4 : ¬ r ≤ (90 : Int) := by omega
  have f5 : r ≤ (122 : Int) := by omega
  have f6 : r ≤ (591 : Int) := by omega
  have f7 : (r == (95 : Int)) = false := beq_eq_false_iff_ne.2 (by omega)
  have f8 : (r == (215 : Int)) = false := beq_eq_false_iff_ne.2 (by omega)
  have f9 : (r == (247 : Int)) = false := beq_eq_false_iff_ne.2 (by omega)
  clear hv h
  go_enter Tryz.func14, Tryz.ntmps14
  go_wp2_with fail
  go_ret
  exact ⟨rfl, rfl⟩
 ·have hv : letB r = false := by
   unfold letB
   rw [if_neg (by omega)]
   exact decide_eq_false (by omega)
  rw [hv]
  have f1 : (97 : Int) ≤ r := by omega
  have f2 : (65 : Int) ≤ r := by omega
  have f3 : ¬ (192 : Int) ≤ r := by omega
  have f4 : ¬ r ≤ (90 : Int) := by omega
  have f5 : ¬ r ≤ (122 : Int) := by omega
  have f6 : r ≤ (591 : Int) := by omega
  have f7 : (r == (95 : Int)) = false := beq_eq_false_iff_ne.2 (by omega)
  have f8 : (r == (215 : Int)) = false := beq_eq_false_iff_ne.2 (by omega)
  have f9 : (r == (247 : Int)) = false := beq_eq_false_iff_ne.2 (by omega)
  clear hv h
  go_enter Tryz.func14, Tryz.ntmps14
  go_wp2_with fail
  go_ret
  exact ⟨rfl, rfl⟩
 ·have hv : letB r = true := by
   unfold letB
   rw [if_neg (by omega)]
   exact decide_eq_true (by omega)
  rw [hv]
  have f1 : (97 : Int) ≤ r := by omega
  have f2 : (65 : Int) ≤ r := by omega
  have f3 : (192 : Int) ≤ r := by omega
  have f4 : ¬ r ≤ (90 : Int) := by omega
  have f5 : ¬ r ≤ (122 : Int) := by omega
  have f6 : r ≤ (591 : Int) := by omega
  have f7 : (r == (95 : Int)) = false := beq_eq_false_iff_ne.2 (by omega)
  have f8 : (r == (215 : Int)) = false := beq_eq_false_iff_ne.2 (by omega)
  have f9 : (r == (247 : Int)) = false := beq_eq_false_iff_ne.2 (by omega)
  clear hv h
  go_enter Tryz.func14, Tryz.ntmps14
  go_wp2_with fail
  go_ret
  exact ⟨rfl, rfl⟩
 ·rw [show letB 215 = false by decide]
  go_enter Tryz.func14, Tryz.ntmps14
  go_wp2_with fail
  go_ret
  exact ⟨rfl, rfl⟩
 ·have hv : letB r = true := by
   unfold letB
   rw [if_neg (by omega)]
   exact decide_eq_true (by omega)
  rw [hv]
  have f1 : (97 : Int) ≤ r := by omega
  have f2 : (65 : Int) ≤ r := by omega
  have f3 : (192 : Int) ≤ r := by omega
  have f4 : ¬ r ≤ (90 : Int) := by omega
  have f5 : ¬ r ≤ (122 : Int) := by omega
  have f6 : r ≤ (591 : Int) := by omega
  have f7 : (r == (95 : Int)) = false := beq_eq_false_iff_ne.2 (by omega)
  have f8 : (r == (215 : Int)) = false := beq_eq_false_iff_ne.2 (by omega)
  have f9 : (r == (247 : Int)) = false := beq_eq_false_iff_ne.2 (by omega)
  clear hv h
  go_enter Tryz.func14, Tryz.ntmps14
  go_wp2_with fail
  go_ret
  exact ⟨rfl, rfl⟩
 ·rw [show letB 247 = false by decide]
  go_enter Tryz.func14, Tryz.ntmps14
  go_wp2_with fail
  go_ret
  exact ⟨rfl, rfl⟩
 ·have hv : letB r = true := by
   unfold letB
   rw [if_neg (by omega)]
   exact decide_eq_true (by omega)
  rw [hv]
  have f1 : (97 : Int) ≤ r := by omega
  have f2 : (65 : Int) ≤ r := by omega
  have f3 : (192 : Int) ≤ r := by omega
  have f4 : ¬ r ≤ (90 : Int) := by omega
  have f5 : ¬ r ≤ (122 : Int) := by omega
  have f6 : r ≤ (591 : Int) := by omega
  have f7 : (r == (95 : Int)) = false := beq_eq_false_iff_ne.2 (by omega)
  have f8 : (r == (215 : Int)) = false := beq_eq_false_iff_ne.2 (by omega)
  have f9 : (r == (247 : Int)) = false := beq_eq_false_iff_ne.2 (by omega)
  clear hv h
  go_enter Tryz.func14, Tryz.ntmps14
  go_wp2_with fail
  go_ret
  exact ⟨rfl, rfl⟩
 ·have hv : letB r = false := by
   unfold letB
   rw [if_neg (by omega)]
   exact decide_eq_false (by omega)
  rw [hv]
  have f1 : (97 : Int) ≤ r := by omega
  have f2 : (65 : Int) ≤ r := by omega
  have f3 : (192 : Int) ≤ r := by omega
  have f4 : ¬ r ≤ (90 : Int) := by omega
  have f5 : ¬ r ≤ (122 : Int) := by omega
  have f6 : ¬ r ≤ (591 : Int) := by omega
  have f7 : (r == (95 : Int)) = false := beq_eq_false_iff_ne.2 (by omega)
  have f8 : (r == (215 : Int)) = false := beq_eq_false_iff_ne.2 (by omega)
  have f9 : (r == (247 : Int)) = false := beq_eq_false_iff_ne.2 (by omega)
  clear hv h
  go_enter Tryz.func14, Tryz.ntmps14
  go_wp2_with fail
  go_ret
  exact ⟨rfl, rfl⟩
set_option maxRecDepth 100000 in
set_option maxHeartbeats 2000000 in
theorem LetterD_run (r : Int) (w : World) : Calls Tryz.prog 15 #[.int .i64 r] w fun e w' => e = .returned (.bool (letB r)) ∧ w' = w := by
 rcases (by omega : (r ≤ 64) ∨ (65 ≤ r ∧ r ≤ 90) ∨ (91 ≤ r ∧ r ≤ 94) ∨ (r = 95) ∨ (r = 96) ∨ (97 ≤ r ∧ r ≤ 122) ∨ (123 ≤ r ∧ r ≤ 191) ∨ (192 ≤ r ∧ r ≤ 214) ∨ (r = 215) ∨ (216 ≤ r ∧ r ≤ 246) ∨ (r = 247) ∨ (248 ≤ r ∧ r ≤ 591) ∨ (592 ≤ r)) with h | h | h | rfl | rfl | h | h | h | rfl | h | rfl | h | h
 ·have hv : letB r = false := by
   unfold letB
   rw [if_neg (by omega)]
   exact decide_eq_false (by omega)
  rw [hv]
  have f1 : ¬ (97 : Int) ≤ r := by omega
  have f2 : ¬ (65 : Int) ≤ r := by omega
  have f3 : ¬ (192 : Int) ≤ r := by omega
  have f4 : r ≤ (90 : Int) := by omega
  have f5 : r ≤ (122 : Int) := by omega
  have f6 : r ≤ (591 : Int) := by omega
  have f7 : (r == (95 : Int)) = false := beq_eq_false_iff_ne.2 (by omega)
  have f8 : (r != (215 : Int)) = true := by rw [bne, beq_eq_false_iff_ne.2 (by omega)]; rfl
  have f9 : (r != (247 : Int)) = true := by rw [bne, beq_eq_false_iff_ne.2 (by omega)]; rfl
  clear hv h
  go_enter Tryz.func15, Tryz.ntmps15
  go_wp2_with fail
  go_ret
  exact ⟨rfl, rfl⟩
 ·have hv : letB r = true := by
   unfold letB
   rw [if_pos (by omega)]
  rw [hv]
  have f1 : ¬ (97 : Int) ≤ r := by omega
  have f2 : (65 : Int) ≤ r := by omega
  have f3 : ¬ (192 : Int) ≤ r := by omega
  have f4 : r ≤ (90 : Int) := by omega
  have f5 : r ≤ (122 : Int) := by omega
  have f6 : r ≤ (591 : Int) := by omega
  have f7 : (r == (95 : Int)) = false := beq_eq_false_iff_ne.2 (by omega)
  have f8 : (r != (215 : Int)) = true := by rw [bne, beq_eq_false_iff_ne.2 (by omega)]; rfl
  have f9 : (r != (247 : Int)) = true := by rw [bne, beq_eq_false_iff_ne.2 (by omega)]; rfl
  clear hv h
  go_enter Tryz.func15, Tryz.ntmps15
  go_wp2_with fail
  go_ret
  exact ⟨rfl, rfl⟩
 ·have hv : letB r = false := by
   unfold letB
   rw [if_neg (by omega)]
   exact decide_eq_false (by omega)
  rw [hv]
  have f1 : ¬ (97 : Int) ≤ r := by omega
  have f2 : (65 : Int) ≤ r := by omega
  have f3 : ¬ (192 : Int) ≤ r := by omega
  have f4 : ¬ r ≤ (90 : Int) := by omega
  have f5 : r ≤ (122 : Int) := by omega
  have f6 : r ≤ (591 : Int) := by omega
  have f7 : (r == (95 : Int)) = false := beq_eq_false_iff_ne.2 (by omega)
  have f8 : (r != (215 : Int)) = true := by rw [bne, beq_eq_false_iff_ne.2 (by omega)]; rfl
  have f9 : (r != (247 : Int)) = true := by rw [bne, beq_eq_false_iff_ne.2 (by omega)]; rfl
  clear hv h
  go_enter Tryz.func15, Tryz.ntmps15
  go_wp2_with fail
  go_ret
  exact ⟨rfl, rfl⟩
 ·rw [show letB 95 = true by decide]
  go_enter Tryz.func15, Tryz.ntmps15
  go_wp2_with fail
  go_ret
  exact ⟨rfl, rfl⟩
 ·rw [show letB 96 = false by decide]
  go_enter Tryz.func15, Tryz.ntmps15
  go_wp2_with fail
  go_ret
  exact ⟨rfl, rfl⟩
 ·have hv : letB r = true := by
   unfold letB
   rw [if_pos (by omega)]
  rw [hv]
  have f1 : (97 : Int) ≤ r := by omega
  have f2 : (65 : Int) ≤ r := by omega
  have f3 : ¬ (192 : Int) ≤ r := by omega
  have f4 : ¬ r ≤ (90 : Int) := by omega
  have f5 : r ≤ (122 : Int) := by omega
  have f6 : r ≤ (591 : Int) := by omega
  have f7 : (r == (95 : Int)) = false := beq_eq_false_iff_ne.2 (by omega)
  have f8 : (r != (215 : Int)) = true := by rw [bne, beq_eq_false_iff_ne.2 (by omega)]; rfl
  have f9 : (r != (247 : Int)) = true := by rw [bne, beq_eq_false_iff_ne.2 (by omega)]; rfl
  clear hv h
  go_enter Tryz.func15, Tryz.ntmps15
  go_wp2_with fail
  go_ret
  exact ⟨rfl, rfl⟩
 ·have hv : letB r = false := by
   unfold letB
   rw [if_neg (by omega)]
   exact decide_eq_false (by omega)
  rw [hv]
  have f1 : (97 : Int) ≤ r := by omega
  have f2 : (65 : Int) ≤ r := by omega
  have f3 : ¬ (192 : Int) ≤ r := by omega
  have f4 : ¬ r ≤ (90 : Int) := by omega
  have f5 : ¬ r ≤ (122 : Int) := by omega
  have f6 : r ≤ (591 : Int) := by omega
  have f7 : (r == (95 : Int)) = false := beq_eq_false_iff_ne.2 (by omega)
  have f8 : (r != (215 : Int)) = true := by rw [bne, beq_eq_false_iff_ne.2 (by omega)]; rfl
  have f9 : (r != (247 : Int)) = true := by rw [bne, beq_eq_false_iff_ne.2 (by omega)]; rfl
  clear hv h
  go_enter Tryz.func15, Tryz.ntmps15
  go_wp2_with fail
  go_ret
  exact ⟨rfl, rfl⟩
 ·have hv : letB r = true := by
   unfold letB
   rw [if_neg (by omega)]
   exact decide_eq_true (by omega)
  rw [hv]
  have f1 : (97 : Int) ≤ r := by omega
  have f2 : (65 : Int) ≤ r := by omega
  have f3 : (192 : Int) ≤ r := by omega
  have f4 : ¬ r ≤ (90 : Int) := by omega
  have f5 : ¬ r ≤ (122 : Int) := by omega
  have f6 : r ≤ (591 : Int) := by omega
  have f7 : (r == (95 : Int)) = false := beq_eq_false_iff_ne.2 (by omega)
  have f8 : (r != (215 : Int)) = true := by rw [bne, beq_eq_false_iff_ne.2 (by omega)]; rfl
  have f9 : (r != (247 : Int)) = true := by rw [bne, beq_eq_false_iff_ne.2 (by omega)]; rfl
  clear hv h
  go_enter Tryz.func15, Tryz.ntmps15
  go_wp2_with fail
  go_ret
  exact ⟨rfl, rfl⟩
 ·rw [show letB 215 = false by decide]
  go_enter Tryz.func15, Tryz.ntmps15
  go_wp2_with fail
  go_ret
  exact ⟨rfl, rfl⟩
 ·have hv : letB r = true := by
   unfold letB
   rw [if_neg (by omega)]
   exact decide_eq_true (by omega)
  rw [hv]
  have f1 : (97 : Int) ≤ r := by omega
  have f2 : (65 : Int) ≤ r := by omega
  have f3 : (192 : Int) ≤ r := by omega
  have f4 : ¬ r ≤ (90 : Int) := by omega
  have f5 : ¬ r ≤ (122 : Int) := by omega
  have f6 : r ≤ (591 : Int) := by omega
  have f7 : (r == (95 : Int)) = false := beq_eq_false_iff_ne.2 (by omega)
  have f8 : (r != (215 : Int)) = true := by rw [bne, beq_eq_false_iff_ne.2 (by omega)]; rfl
  have f9 : (r != (247 : Int)) = true := by rw [bne, beq_eq_false_iff_ne.2 (by omega)]; rfl
  clear hv h
  go_enter Tryz.func15, Tryz.ntmps15
  go_wp2_with fail
  go_ret
  exact ⟨rfl, rfl⟩
 ·rw [show letB 247 = false by decide]
  go_enter Tryz.func15, Tryz.ntmps15
  go_wp2_with fail
  go_ret
  exact ⟨rfl, rfl⟩
 ·have hv : letB r = true := by
   unfold letB
   rw [if_neg (by omega)]
   exact decide_eq_true (by omega)
  rw [hv]
  have f1 : (97 : Int) ≤ r := by omega
  have f2 : (65 : Int) ≤ r := by omega
  have f3 : (192 : Int) ≤ r := by omega
  have f4 : ¬ r ≤ (90 : Int) := by omega
  have f5 : ¬ r ≤ (122 : Int) := by omega
  have f6 : r ≤ (591 : Int) := by omega
  have f7 : (r == (95 : Int)) = false := beq_eq_false_iff_ne.2 (by omega)
  have f8 : (r != (215 : Int)) = true := by rw [bne, beq_eq_false_iff_ne.2 (by omega)]; rfl
  have f9 : (r != (247 : Int)) = true := by rw [bne, beq_eq_false_iff_ne.2 (by omega)]; rfl
  clear hv h
  go_enter Tryz.func15, Tryz.ntmps15
  go_wp2_with fail
  go_ret
  exact ⟨rfl, rfl⟩
 ·have hv : letB r = false := by
   unfold letB
   rw [if_neg (by omega)]
   exact decide_eq_false (by omega)
  rw [hv]
  have f1 : (97 : Int) ≤ r := by omega
  have f2 : (65 : Int) ≤ r := by omega
  have f3 : (192 : Int) ≤ r := by omega
  have f4 : ¬ r ≤ (90 : Int) := by omega
  have f5 : ¬ r ≤ (122 : Int) := by omega
  have f6 : ¬ r ≤ (591 : Int) := by omega
  have f7 : (r == (95 : Int)) = false := beq_eq_false_iff_ne.2 (by omega)
  have f8 : (r != (215 : Int)) = true := by rw [bne, beq_eq_false_iff_ne.2 (by omega)]; rfl
  have f9 : (r != (247 : Int)) = true := by rw [bne, beq_eq_false_iff_ne.2 (by omega)]; rfl
  clear hv h
  go_enter Tryz.func15, Tryz.ntmps15
  go_wp2_with fail
  go_ret
  exact ⟨rfl, rfl⟩
set_option maxRecDepth 100000 in
set_option maxHeartbeats 2000000 in
theorem isDigit_run (r : Int) (w : World) : Calls Tryz.prog 97 #[.int .i32 r] w fun e w' => e = .returned (.bool (digB r)) ∧ w' = w := by
 rcases (by omega : r ≤ 47 ∨ (48 ≤ r ∧ r ≤ 57) ∨ 58 ≤ r) with h | h | h
 ·rw [show digB r = false from decide_eq_false (by omega)]
  have f1 : ¬ (48 : Int) ≤ r := by omega
  have f2 : r ≤ (57 : Int) := by omega
  clear h
  go_enter Tryz.func97, Tryz.ntmps97
  go_wp2_with fail
  go_ret
  exact ⟨rfl, rfl⟩
 ·rw [show digB r = true from decide_eq_true (by omega)]
  have f1 : (48 : Int) ≤ r := by omega
  have f2 : r ≤ (57 : Int) := by omega
  clear h
  go_enter Tryz.func97, Tryz.ntmps97
  go_wp2_with fail
  go_ret
  exact ⟨rfl, rfl⟩
 ·rw [show digB r = false from decide_eq_false (by omega)]
  have f1 : (48 : Int) ≤ r := by omega
  have f2 : ¬ r ≤ (57 : Int) := by omega
  clear h
  go_enter Tryz.func97, Tryz.ntmps97
  go_wp2_with fail
  go_ret
  exact ⟨rfl, rfl⟩
def twoF (x y : UInt8) : List UInt8 → Bool
 | p :: q :: _ => p == x && q == y
 | _ => false
set_option maxRecDepth 100000 in
set_option maxHeartbeats 2000000 in
theorem two_run (A : Option Addr) (n cap a : Nat) (l : List UInt8) (x y : UInt8) (v : Bool) (w : World) (B : Nat) (hb : Byts w B A (bi l)) (hn : l.length = n) (hm : n ≤ 1000) (hcap : n ≤ cap) (ha : a ≤ n) (hv : Hid (twoF x y (l.drop a) = v)) :
  Calls Tryz.prog 31 #[.slice A n cap, .int .i64 (a : Int), .int .u8 (x.toNat : Int), .int .u8 (y.toNat : Int)] w fun e w' => e = .returned (.bool v) ∧ w' = w := by
 by_cases h2 : a + 1 < n
 ·have h2z : (a : Int) + 1 < (n : Int) := by omega
  have han : a < n := by omega
  obtain ⟨b, o, rfl, hbB, _⟩ := hb.2 (by rw [bi_length]; omega)
  obtain ⟨p, hp⟩ : ∃ p, l[a]? = some p := ⟨l[a]'(by omega), List.getElem?_eq_getElem _⟩
  obtain ⟨q, hq⟩ : ∃ q, l[a + 1]? = some q := ⟨l[a + 1]'(by omega), List.getElem?_eq_getElem _⟩
  have hx := byts_cell hb hp
  have hy := byts_cell hb hq
  have hd : twoF x y (l.drop a) = (p == x && q == y) := by rw [drop_cons hp, drop_cons hq]; rfl
  rw [hd] at hv
  clear hb hd hp hq
  by_cases hpx : p = x
  ·subst hpx
   by_cases hqy : q = y
   ·subst hqy
    have hv2 : v = true := by rw [← hv.out]; simp
    subst hv2
    clear hv
    generalize p.toNat = pn at *
    generalize q.toNat = qn at *
    go_enter Tryz.func31, Tryz.ntmps31
    go_wp2_with fail
    go_ret
    exact ⟨by simp, rfl⟩
   ·have hv2 : v = false := by rw [← hv.out, show (q == y) = false by simpa using hqy, Bool.and_false]
    subst hv2
    have e2 := eq_byte hqy
    clear hv hqy
    generalize p.toNat = pn at *
    generalize q.toNat = qn at *
    generalize y.toNat = yn at *
    go_enter Tryz.func31, Tryz.ntmps31
    go_wp2_with fail
    go_ret
    exact ⟨by simp, rfl⟩
  ·have hv2 : v = false := by rw [← hv.out, show (p == x) = false by simpa using hpx, Bool.false_and]
   subst hv2
   have e1 := eq_byte hpx
   clear hv hpx
   generalize p.toNat = pn at *
   generalize q.toNat = qn at *
   generalize x.toNat = xn at *
   generalize y.toNat = yn at *
   go_enter Tryz.func31, Tryz.ntmps31
   go_wp2_with fail
   go_ret
   exact ⟨by simp, rfl⟩
 ·have h2z : ¬ (a : Int) + 1 < (n : Int) := by omega
  have hv2 : v = false := by
   rw [← hv.out]
   have hl : (l.drop a).length ≤ 1 := by rw [List.length_drop]; omega
   match l.drop a, hl with
   | [], _ => rfl
   | [_], _ => rfl
  subst hv2
  have hlt : a ≤ 1000 := by omega
  clear hv hb
  generalize x.toNat = xn at *
  generalize y.toNat = yn at *
  go_enter Tryz.func31, Tryz.ntmps31
  go_wp2_with fail
  go_ret
  exact ⟨rfl, rfl⟩
end Go.Proofs.YtgkhjeefcflmcaaGreatDoor
namespace Go.Proofs.YtgkhjeefcflmcaaGreatDoor
open Go.RowKit Go.Sort
set_option linter.unusedSimpArgs false
set_option linter.unusedVariables false
def cmtV (a : Nat) : Option (Nat × Bool × Bool) → Value
 | none => .tuple #[.int .i64 (-1), .bool true, .bool false]
 | some (k, e, L) => .tuple #[.int .i64 ((a + k : Nat) : Int), .bool e, .bool L]
set_option maxRecDepth 100000 in
set_option maxHeartbeats 4000000 in
theorem Comment_no (A : Option Addr) (n cap a : Nat) (l : List UInt8) (w : World) (B : Nat) (hb : Byts w B A (bi l)) (hn : l.length = n) (hm : n ≤ 1000) (hcap : n ≤ cap) (ha : a ≤ n) (hc : cmtF (l.drop a) = none) :
  Calls Tryz.prog 23 #[.slice A n cap, .int .i64 (a : Int)] w fun e w' => e = .returned (cmtV a none) ∧ w' = w := by
 have h1 : twoF 47 47 (l.drop a) = false := by
  match h : l.drop a, hc with
  | [], _ => rfl
  | [_], _ => rfl
  | p :: q :: t, hc =>
   show (p == 47 && q == 47) = false
   by_cases hp : p = 47
   ·subst hp
    by_cases hq : q = 47
    ·subst hq; cases hc
    ·rw [show (q == 47) = false by simpa using hq, Bool.and_false]
   ·rw [show (p == 47) = false by simpa using hp, Bool.false_and]
 have h2 : twoF 47 42 (l.drop a) = false := by
  match h : l.drop a, hc with
  | [], _ => rfl
  | [_], _ => rfl
  | p :: q :: t, hc =>
   show (p == 47 && q == 42) = false
   by_cases hp : p = 47
   ·subst hp
    by_cases hq : q = 42
    ·subst hq; cases hc
    ·rw [show (q == 42) = false by simpa using hq, Bool.and_false]
   ·rw [show (p == 47) = false by simpa using hp, Bool.false_and]
 have H1 : Hid (Calls Tryz.prog 31 #[.slice A n cap, .int .i64 (a : Int), .int .u8 47, .int .u8 47] w fun e w' => e = .returned (.bool false) ∧ w' = w) := two_run A n cap a l 47 47 false w B hb hn hm hcap ha h1
 have H2 : Hid (Calls Tryz.prog 31 #[.slice A n cap, .int .i64 (a : Int), .int .u8 47, .int .u8 42] w fun e w' => e = .returned (.bool false) ∧ w' = w) := two_run A n cap a l 47 42 false w B hb hn hm hcap ha h2
 clear hb hc h1 h2 hn
 show Calls _ _ _ _ fun e w' => e = .returned (.tuple #[.int .i64 (-1), .bool true, .bool false]) ∧ w' = w
 go_enter Tryz.func23, Tryz.ntmps23
 go_wp2_with fail
 refine H1.out.mono ?_
 rintro e w1 ⟨rfl, rfl⟩
 go_wp2_with fail
 refine H2.out.mono ?_
 rintro e w2 ⟨rfl, rfl⟩
 go_wp2_with fail
 go_ret3
 exact ⟨rfl, rfl⟩
set_option maxRecDepth 100000 in
set_option maxHeartbeats 4000000 in
theorem Comment_line (b o n cap a : Nat) (l t : List UInt8) (w : World) (B : Nat) (hb : Byts w B (some ⟨b, o, none⟩) (bi l)) (hn : l.length = n) (hm : n ≤ 1000) (hcap : n ≤ cap) (ht : l.drop a = 47 :: 47 :: t) :
  Calls Tryz.prog 23 #[.slice (some ⟨b, o, none⟩) n cap, .int .i64 (a : Int)] w fun e w' => e = .returned (cmtV a (some (lineN t + 2, true, false))) ∧ w' = w := by
 have ha : a + 2 ≤ n := by have := congrArg List.length ht; rw [List.length_drop, hn] at this; simp only [List.length_cons] at this; omega
 have H1 : Hid (Calls Tryz.prog 31 #[.slice (some ⟨b, o, none⟩) n cap, .int .i64 (a : Int), .int .u8 47, .int .u8 47] w fun e w' => e = .returned (.bool true) ∧ w' = w) := two_run (some ⟨b, o, none⟩) n cap a l 47 47 true w B hb hn hm hcap (by omega) (by show twoF _ _ _ = _; rw [ht]; rfl)
 obtain ⟨E, hE⟩ : ∃ E, a + (lineN t + 2) = E := ⟨_, rfl⟩
 have HE0 : Hid (E = a + 0 + lineN (l.drop (a + 0))) := by
  show E = _
  rw [Nat.add_zero, ht, ← hE]
  rfl
 show Calls _ _ _ _ fun e w' => e = .returned (.tuple #[.int .i64 ((a + (lineN t + 2) : Nat) : Int), .bool true, .bool false]) ∧ w' = w
 rw [hE]
 have HB := Lib.hid hb
 have HN := Lib.hid hn
 clear hb ht hE hn
 go_enter Tryz.func23, Tryz.ntmps23
 go_wp2_with fail
 refine H1.out.mono ?_
 rintro e w1 ⟨rfl, rfl⟩
 clear H1
 go_wp2_with fail
 go_loopg [7] (n + 1) (fun h s7 wr => ∃ j : Nat, s7 = .int .i64 ((a + j : Nat) : Int) ∧ Hid (n + 1 ≤ a + j + h) ∧ a + j ≤ n ∧ Hid (E = a + j + lineN (l.drop (a + j))) ∧ wr = w1)
 case atStart => exact ⟨0, by go_num, (by show _ ≤ _; omega), by omega, HE0, rfl⟩
 case round =>
  clear HE0
  obtain ⟨j, rfl, HI, hin, HE, rfl⟩ := hrel
  obtain ⟨i, hi⟩ : ∃ i, a + j = i := ⟨_, rfl⟩
  rw [hi] at hin HE ⊢
  have HII := Lib.hid hi
  by_cases hlt : i < n
  ·have hiz : (i : Int) < (n : Int) := by omega
   obtain ⟨c, hc⟩ : ∃ c, l[i]? = some c := ⟨l[i]'(by rw [HN.out]; exact hlt), List.getElem?_eq_getElem _⟩
   have hx := byts_cell HB.out hc
   have hdr := drop_cons hc
   by_cases hcq : c = (10 : UInt8)
   ·have HF : Hid (E = i) := by
     have := HE.out
     rw [hdr, hcq] at this
     exact this
    subst hcq
    have hx2 : wr.cell? ⟨b, o + i, none⟩ = some (.int .u8 10) := hx
    clear hc hdr hx hi HE
    go_wp2_with fail
    go_ret3
    exact ⟨by rw [HF.out]; rfl, rfl⟩
   ·have ecq : ((c.toNat : Int) == 10) = false := eq_byte hcq
    have HE2 : Hid (E = i + 1 + lineN (l.drop (i + 1))) := by
     have := HE.out
     rw [hdr, show lineN (c :: l.drop (i + 1)) = lineN (l.drop (i + 1)) + 1 from if_neg hcq] at this
     show _ = _
     omega
    clear hc hdr hi HE hcq
    generalize c.toNat = cn at *
    go_wp2_with fail
    go_roundg (n - i)
    case measure => have := HI.out; have := HII.out; omega
    case rel => exact ⟨j + 1, by have := HII.out; go_num, by show _ ≤ _; have := HI.out; have := HII.out; omega, by have := HII.out; omega, by have := HII.out; rw [show a + (j + 1) = i + 1 by omega]; exact HE2, rfl⟩
  ·have hin2 : i = n := by omega
   have hiz : ¬ (i : Int) < (n : Int) := by omega
   have HF : Hid (E = n) := by
    have := HE.out
    rw [List.drop_of_length_le (by rw [HN.out]; omega)] at this
    show _ = _
    simp only [lineN] at this
    omega
   clear hi HE hin2
   go_wp2_with fail
   go_ret3
   exact ⟨by rw [HF.out]; rfl, rfl⟩
set_option maxRecDepth 100000 in
set_option maxHeartbeats 4000000 in
theorem Comment_gen (b o n cap a : Nat) (l t : List UInt8) (k : Nat) (ed ld : Bool) (w : World) (B : Nat) (hb : Byts w B (some ⟨b, o, none⟩) (bi l)) (hn : l.length = n) (hm : n ≤ 1000) (hcap : n ≤ cap) (ht : l.drop a = 47 :: 42 :: t) (hg : genF t = (k, ed, ld)) :
  Calls Tryz.prog 23 #[.slice (some ⟨b, o, none⟩) n cap, .int .i64 (a : Int)] w fun e w' => e = .returned (cmtV a (some (k + 2, ed, ld))) ∧ w' = w := by
 have ha : a + 2 ≤ n := by have := congrArg List.length ht; rw [List.length_drop, hn] at this; simp only [List.length_cons] at this; omega
 have htd : t = l.drop (a + 2) := by rw [← List.drop_drop, ht]; rfl
 have H1 : Hid (Calls Tryz.prog 31 #[.slice (some ⟨b, o, none⟩) n cap, .int .i64 (a : Int), .int .u8 47, .int .u8 47] w fun e w' => e = .returned (.bool false) ∧ w' = w) := two_run (some ⟨b, o, none⟩) n cap a l 47 47 false w B hb hn hm hcap (by omega) (by show twoF _ _ _ = _; rw [ht]; rfl)
 have H2 : Hid (Calls Tryz.prog 31 #[.slice (some ⟨b, o, none⟩) n cap, .int .i64 (a : Int), .int .u8 47, .int .u8 42] w fun e w' => e = .returned (.bool true) ∧ w' = w) := two_run (some ⟨b, o, none⟩) n cap a l 47 42 true w B hb hn hm hcap (by omega) (by show twoF _ _ _ = _; rw [ht]; rfl)
 have HT : Hid (∀ (i : Nat) (v : Bool), i ≤ n → twoF 42 47 (l.drop i) = v → Calls Tryz.prog 31 #[.slice (some ⟨b, o, none⟩) n cap, .int .i64 (i : Int), .int .u8 42, .int .u8 47] w fun e w' => e = .returned (.bool v) ∧ w' = w) := fun i v hi hv => two_run (some ⟨b, o, none⟩) n cap i l 42 47 v w B hb hn hm hcap hi hv
 obtain ⟨E, hE⟩ : ∃ E, a + (k + 2) = E := ⟨_, rfl⟩
 have HE0 : Hid (E = a + 2 + 0 + (genF (l.drop (a + 2 + 0))).1 ∧ ed = (genF (l.drop (a + 2 + 0))).2.1 ∧ ld = (false || (genF (l.drop (a + 2 + 0))).2.2)) := by
  rw [Nat.add_zero, ← htd, hg]
  exact ⟨by omega, rfl, rfl⟩
 show Calls _ _ _ _ fun e w' => e = .returned (.tuple #[.int .i64 ((a + (k + 2) : Nat) : Int), .bool ed, .bool ld]) ∧ w' = w
 rw [hE]
 have HB := Lib.hid hb
 have HN := Lib.hid hn
 clear hb ht hn htd hg hE
 go_enter Tryz.func23, Tryz.ntmps23
 go_wp2_with fail
 refine H1.out.mono ?_
 rintro e w1 ⟨rfl, rfl⟩
 clear H1
 go_wp2_with fail
 refine H2.out.mono ?_
 rintro e w2 ⟨rfl, rfl⟩
 clear H2
 go_wp2_with fail
 go_loopg [8, 9] (n + 1) (fun h s8 s9 wr => ∃ (j : Nat) (L : Bool), s8 = .bool L ∧ s9 = .int .i64 ((a + 2 + j : Nat) : Int) ∧ Hid (n + 1 ≤ a + 2 + j + h) ∧ a + 2 + j ≤ n ∧ Hid (E = a + 2 + j + (genF (l.drop (a + 2 + j))).1 ∧ ed = (genF (l.drop (a + 2 + j))).2.1 ∧ ld = (L || (genF (l.drop (a + 2 + j))).2.2)) ∧ wr = w2)
 case atStart => exact ⟨0, false, rfl, by go_num, (by show _ ≤ _; omega), by omega, HE0, rfl⟩
 case round =>
  clear HE0
  obtain ⟨j, L, rfl, rfl, HI, hin, HE, rfl⟩ := hrel
  obtain ⟨i, hi⟩ : ∃ i, a + 2 + j = i := ⟨_, rfl⟩
  rw [hi] at hin HE ⊢
  have HII := Lib.hid hi
  by_cases hlt : i < n
  ·have hiz : (i : Int) < (n : Int) := by omega
   obtain ⟨c, hc⟩ : ∃ c, l[i]? = some c := ⟨l[i]'(by rw [HN.out]; exact hlt), List.getElem?_eq_getElem _⟩
   have hx := byts_cell HB.out hc
   have hdr := drop_cons hc
   by_cases hcq : c = (42 : UInt8) ∧ (l.drop (i + 1)).head? = some 47
   ·have hT : twoF 42 47 (l.drop i) = true := by
     rw [hdr]
     match l.drop (i + 1), hcq.2 with
     | q :: u, h2 => cases h2; rw [hcq.1]; rfl
    have HC := Lib.hid (HT.out i true (by omega) hT)
    have HF : Hid (E = i + 2 ∧ ed = true ∧ ld = L) := by
     have := HE.out
     rw [hdr, show genF (c :: l.drop (i + 1)) = (2, true, false) from if_pos hcq] at this
     exact ⟨this.1, this.2.1, by rw [this.2.2, Bool.or_false]⟩
    clear hc hdr hx hi HE hcq hT HT
    go_wp2_with fail
    refine HC.out.mono ?_
    rintro e w3 ⟨rfl, rfl⟩
    go_wp2_with fail
    go_ret3
    exact ⟨by rw [HF.out.1, HF.out.2.1, HF.out.2.2]; rfl, rfl⟩
   ·have hT : twoF 42 47 (l.drop i) = false := by
     rw [hdr]
     match l.drop (i + 1), hcq with
     | [], _ => rfl
     | q :: u, h2 =>
      show (c == 42 && q == 47) = false
      by_cases h3 : c = 42
      ·rw [show (q == 47) = false by simpa using fun e => h2 ⟨h3, by rw [e]; rfl⟩, Bool.and_false]
      ·rw [show (c == 42) = false by simpa using h3, Bool.false_and]
    have HC := Lib.hid (HT.out i false (by omega) hT)
    have HE2 : Hid (E = i + 1 + (genF (l.drop (i + 1))).1 ∧ ed = (genF (l.drop (i + 1))).2.1 ∧ ld = ((L || c == 10) || (genF (l.drop (i + 1))).2.2)) := by
     have := HE.out
     rw [hdr, show genF (c :: l.drop (i + 1)) = ((genF (l.drop (i + 1))).1 + 1, (genF (l.drop (i + 1))).2.1, (c == 10) || (genF (l.drop (i + 1))).2.2) from if_neg hcq] at this
     exact ⟨by have := this.1; simp only at this; omega, this.2.1, by rw [this.2.2, Bool.or_assoc]⟩
    clear hdr hi HE hcq hT HT hc
    cases L with
    | true =>
     have HE3 : Hid (E = i + 1 + (genF (l.drop (i + 1))).1 ∧ ed = (genF (l.drop (i + 1))).2.1 ∧ ld = (true || (genF (l.drop (i + 1))).2.2)) := by have := HE2.out; rw [Bool.true_or] at this; exact this
     clear HE2
     generalize c.toNat = cn at *
     go_wp2_with fail
     refine HC.out.mono ?_
     rintro e w3 ⟨rfl, rfl⟩
     go_wp2_with fail
     go_roundg (n - i)
     case measure => have := HI.out; have := HII.out; omega
     case rel => exact ⟨j + 1, true, by simp, by have := HII.out; go_num, by show _ ≤ _; have := HI.out; have := HII.out; omega, by have := HII.out; omega, by have := HII.out; rw [show a + 2 + (j + 1) = i + 1 by omega]; exact HE3, rfl⟩
    | false =>
     have HE3 : Hid (E = i + 1 + (genF (l.drop (i + 1))).1 ∧ ed = (genF (l.drop (i + 1))).2.1 ∧ ld = ((c == 10) || (genF (l.drop (i + 1))).2.2)) := by have := HE2.out; rw [Bool.false_or] at this; exact this
     clear HE2
     by_cases hc10 : c = 10
     ·subst hc10
      have hx2 : wr.cell? ⟨b, o + i, none⟩ = some (.int .u8 10) := hx
      clear hx
      go_wp2_with fail
      refine HC.out.mono ?_
      rintro e w3 ⟨rfl, rfl⟩
      go_wp2_with fail
      go_roundg (n - i)
      case measure => have := HI.out; have := HII.out; omega
      case rel => exact ⟨j + 1, true, by simp, by have := HII.out; go_num, by show _ ≤ _; have := HI.out; have := HII.out; omega, by have := HII.out; omega, by have := HII.out; rw [show a + 2 + (j + 1) = i + 1 by omega]; exact HE3, rfl⟩
     ·have ecq : ((c.toNat : Int) == 10) = false := eq_byte hc10
      have HE4 : Hid (E = i + 1 + (genF (l.drop (i + 1))).1 ∧ ed = (genF (l.drop (i + 1))).2.1 ∧ ld = (false || (genF (l.drop (i + 1))).2.2)) := by have := HE3.out; rw [show (c == 10) = false by simpa using hc10] at this; exact this
      clear HE3 hc10
      generalize c.toNat = cn at *
      go_wp2_with fail
      refine HC.out.mono ?_
      rintro e w3 ⟨rfl, rfl⟩
      go_wp2_with fail
      go_roundg (n - i)
      case measure => have := HI.out; have := HII.out; omega
      case rel => exact ⟨j + 1, false, by simp, by have := HII.out; go_num, by show _ ≤ _; have := HI.out; have := HII.out; omega, by have := HII.out; omega, by have := HII.out; rw [show a + 2 + (j + 1) = i + 1 by omega]; exact HE4, rfl⟩
  ·have hin2 : i = n := by omega
   have hiz : ¬ (i : Int) < (n : Int) := by omega
   have HF : Hid (E = n ∧ ed = false ∧ ld = L) := by
    have := HE.out
    rw [List.drop_of_length_le (by rw [HN.out]; omega)] at this
    exact ⟨by have := this.1; simp only [genF] at this; omega, this.2.1, by rw [this.2.2]; exact Bool.or_false _⟩
   clear hi HE hin2 HT
   go_wp2_with fail
   go_ret3
   exact ⟨by rw [HF.out.1, HF.out.2.1, HF.out.2.2]; rfl, rfl⟩
theorem Comment_run (A : Option Addr) (n cap a : Nat) (l : List UInt8) (r : Option (Nat × Bool × Bool)) (w : World) (B : Nat) (hb : Byts w B A (bi l)) (hn : l.length = n) (hm : n ≤ 1000) (hcap : n ≤ cap) (ha : a ≤ n) (hr : Hid (cmtF (l.drop a) = r)) :
  Calls Tryz.prog 23 #[.slice A n cap, .int .i64 (a : Int)] w fun e w' => e = .returned (cmtV a r) ∧ w' = w := by
 have hr2 := hr.out
 rcases cmtF_cases (l.drop a) with h | ⟨t, h⟩ | ⟨t, h⟩
 ·rw [h] at hr2
  subst hr2
  exact Comment_no A n cap a l w B hb hn hm hcap ha h
 ·have h0 : 0 < l.length := by have := congrArg List.length h; rw [List.length_drop] at this; simp only [List.length_cons] at this; omega
  obtain ⟨b, o, rfl, _⟩ := hb.2 (by rw [bi_length]; exact h0)
  rw [h, cmtF_line] at hr2
  subst hr2
  exact Comment_line b o n cap a l t w B hb hn hm hcap h
 ·have h0 : 0 < l.length := by have := congrArg List.length h; rw [List.length_drop] at this; simp only [List.length_cons] at this; omega
  obtain ⟨b, o, rfl, _⟩ := hb.2 (by rw [bi_length]; exact h0)
  rw [h, cmtF_gen] at hr2
  subst hr2
  exact Comment_gen b o n cap a l t _ _ _ w B hb hn hm hcap h rfl
end Go.Proofs.YtgkhjeefcflmcaaGreatDoor
namespace Go.Proofs.YtgkhjeefcflmcaaGreatDoor
open Go.RowKit Go.Sort
set_option linter.unusedSimpArgs false
set_option linter.unusedVariables false
def tkCells (t : Tk) : List Value := [.int .i64 t.k, .int .i64 t.f, .int .i64 t.t, .bool t.a, .int .i64 t.e]
def tkC (t : TkN) : List Value := tkCells t.up
theorem tk_enc : EncOk tkCells 5 := ⟨by omega, fun e => ⟨rfl, fun u hu => by simp [tkCells] at hu; rcases hu with rfl | rfl | rfl | rfl | rfl <;> rfl⟩⟩
theorem tkn_enc : EncOk tkC 5 := ⟨by omega, fun e => tk_enc.2 e.up⟩
theorem tkn_slice : SliceV tkC 5 23 37 := ⟨tkn_enc, Tryz.underlying23, .agg #[.int .i64 0, .int .i64 0, .int .i64 0, .bool false, .int .i64 0], 40, by omega, by kernel_rfl, by kernel_rfl⟩
theorem tk_flat (L : List TkN) : (L.map TkN.up).flatMap tkCells = L.flatMap tkC := by
 induction L with
 | nil => rfl
 | cons t L ih => rw [List.map_cons, List.flatMap_cons, List.flatMap_cons, ih]; rfl
theorem tk_up {w : World} {B : Nat} {A : Option Addr} {L : List TkN} (h : CellsV tkC w B A L) : CellsV tkCells w B A (L.map TkN.up) := fun hp => by
 rw [tk_flat]
 exact h (by rw [List.length_map] at hp; exact hp)
theorem tk_get {w : World} {B : Nat} {A : Option Addr} {l : List Tk} (h : CellsV tkCells w B A l) {i : Nat} {x : Tk} (hx : l[i]? = some x) : ∃ b o, A = some ⟨b, o, none⟩ ∧ b < B ∧
  w.cell? ⟨b, o + i * 5, none⟩ = some (.int .i64 x.k) ∧ w.cell? ⟨b, o + i * 5 + 1, none⟩ = some (.int .i64 x.f) ∧ w.cell? ⟨b, o + i * 5 + 2, none⟩ = some (.int .i64 x.t) ∧ w.cell? ⟨b, o + i * 5 + 3, none⟩ = some (.bool x.a) ∧ w.cell? ⟨b, o + i * 5 + 4, none⟩ = some (.int .i64 x.e) := by
 have hp : 0 < l.length := by have := (List.getElem?_eq_some_iff.1 hx).1; omega
 obtain ⟨b, o, e, hb, hc⟩ := CellsV.get tk_enc h hp
 exact ⟨b, o, e, hb, hc i x hx 0 _ rfl, hc i x hx 1 _ rfl, hc i x hx 2 _ rfl, hc i x hx 3 _ rfl, hc i x hx 4 _ rfl⟩
theorem one_tk (w : World) (t : Tk) (T : TypeId) : CellsV tkCells (w.alloc (.cells #[.int .i64 t.k, .int .i64 t.f, .int .i64 t.t, .bool t.a, .int .i64 t.e] T)) (w.heap.size + 1) (some ⟨w.heap.size, 0, none⟩) [t] := fun _ => by
 refine ⟨_, _, rfl, by omega, fun j u hu => ?_⟩
 match j, hu with
 | 0, hu => cases hu; rw [World.cell?_alloc_at _ _ _ _ rfl]; rfl
 | 1, hu => cases hu; rw [World.cell?_alloc_at _ _ _ _ rfl]; rfl
 | 2, hu => cases hu; rw [World.cell?_alloc_at _ _ _ _ rfl]; rfl
 | 3, hu => cases hu; rw [World.cell?_alloc_at _ _ _ _ rfl]; rfl
 | 4, hu => cases hu; rw [World.cell?_alloc_at _ _ _ _ rfl]; rfl
theorem one_tkn (w : World) (t : TkN) (T : TypeId) : CellsV tkC (w.alloc (.cells #[.int .i64 t.k, .int .i64 t.f, .int .i64 t.t, .bool t.a, .int .i64 t.e] T)) (w.heap.size + 1) (some ⟨w.heap.size, 0, none⟩) [t] := one_tk w t.up T
structure TAt (w : World) (b : Nat) (t : Tk) : Prop where
 c0 : w.cell? ⟨b, 0, none⟩ = some (.int .i64 t.k)
 c1 : w.cell? ⟨b, 1, none⟩ = some (.int .i64 t.f)
 c2 : w.cell? ⟨b, 2, none⟩ = some (.int .i64 t.t)
 c3 : w.cell? ⟨b, 3, none⟩ = some (.bool t.a)
 c4 : w.cell? ⟨b, 4, none⟩ = some (.int .i64 t.e)
 f0 : w.frozen? ⟨b, 0, none⟩ = false
 f1 : w.frozen? ⟨b, 1, none⟩ = false
 f2 : w.frozen? ⟨b, 2, none⟩ = false
 f3 : w.frozen? ⟨b, 3, none⟩ = false
 f4 : w.frozen? ⟨b, 4, none⟩ = false
theorem TAt.keep {w w' : World} {b B : Nat} {t : Tk} (h : TAt w b t) (hb : Below B w w') (hB : b < B) : TAt w' b t :=
  ⟨(hb.cell (p := ⟨b, 0, none⟩) hB).trans h.c0, (hb.cell (p := ⟨b, 1, none⟩) hB).trans h.c1, (hb.cell (p := ⟨b, 2, none⟩) hB).trans h.c2, (hb.cell (p := ⟨b, 3, none⟩) hB).trans h.c3, (hb.cell (p := ⟨b, 4, none⟩) hB).trans h.c4,
   (hb.frozen (p := ⟨b, 0, none⟩) hB).trans h.f0, (hb.frozen (p := ⟨b, 1, none⟩) hB).trans h.f1, (hb.frozen (p := ⟨b, 2, none⟩) hB).trans h.f2, (hb.frozen (p := ⟨b, 3, none⟩) hB).trans h.f3, (hb.frozen (p := ⟨b, 4, none⟩) hB).trans h.f4⟩
theorem TAt.lt {w : World} {b : Nat} {t : Tk} (h : TAt w b t) : b < w.heap.size := World.block_lt_of_cell? w _ h.c0
theorem TAt.below {w w' : World} {b : Nat} {t : Tk} (h : TAt w b t) (hb : Below w.heap.size w w') : TAt w' b t := h.keep hb h.lt
theorem TAt.new (w : World) (t : Tk) (T : TypeId) : TAt (w.alloc (.cells #[.int .i64 t.k, .int .i64 t.f, .int .i64 t.t, .bool t.a, .int .i64 t.e] T)) w.heap.size t :=
  ⟨World.cell?_alloc_at _ _ _ _ rfl, World.cell?_alloc_at _ _ _ _ rfl, World.cell?_alloc_at _ _ _ _ rfl, World.cell?_alloc_at _ _ _ _ rfl, World.cell?_alloc_at _ _ _ _ rfl,
   World.frozen?_alloc_at _ _ _ _ rfl, World.frozen?_alloc_at _ _ _ _ rfl, World.frozen?_alloc_at _ _ _ _ rfl, World.frozen?_alloc_at _ _ _ _ rfl, World.frozen?_alloc_at _ _ _ _ rfl⟩
def AutoOk (L : List TkN) : Prop := ∀ t, L.getLast? = some t → t.a = true → t.k = 86
theorem AutoOk.nil : AutoOk [] := fun t h => by cases h
theorem AutoOk.step {L : List TkN} (h : AutoOk L) (p : Pc) (x : Nat) : AutoOk (L ++ stO p x (lastK L)) := by
 unfold stO
 split
 ·split
  ·intro t ht _
   rw [List.getLast?_concat] at ht
   cases ht
   rfl
  ·rw [List.append_nil]; exact h
 ·intro t ht ha
  rw [List.getLast?_concat] at ht
  cases ht
  cases ha
end Go.Proofs.YtgkhjeefcflmcaaGreatDoor
