/-
  number's classes of bytes, signs and marks.
-/
import Derived.Test.YtgkhjeefcflmcaaGreatDoorMt14
import Derived.Test.YtgkhjeefcflmcaaGreatDoorMt02
import Derived.Test.YtgkhjeefcflmcaaGreatDoorMt03
import Derived.Test.YtgkhjeefcflmcaaGreatDoorMt08
namespace Go.Proofs.YtgkhjeefcflmcaaGreatDoor
open Go.RowKit Go.Sort
set_option linter.unusedSimpArgs false
def clsN (c : Nat) : Nat := if 48 ≤ c ∧ c ≤ 57 then 7 else if (97 ≤ c ∧ c ≤ 102) ∨ (65 ≤ c ∧ c ≤ 70) then 6 else if (97 ≤ c ∧ c ≤ 122) ∨ (65 ≤ c ∧ c ≤ 90) ∨ c = 95 ∨ c = 46 then 4 else 0
theorem clsN_cases (c : Nat) : clsN c = 7 ∨ clsN c = 6 ∨ clsN c = 4 ∨ clsN c = 0 := by
 unfold clsN
 split
 ·simp
 ·split
  ·simp
  ·split <;> simp
set_option maxRecDepth 100000 in
set_option maxHeartbeats 4000000 in
theorem classes_run (c : Nat) (h : c < 256) (w : World) :
  Calls Tryz.prog 129 #[.int .u8 (c : Int)] w fun e w' => e = .returned (.int .i64 (clsN c : Int)) ∧ w' = w := by
 have hc : (0 ≤ c ∧ c ≤ 45) ∨ (46 ≤ c ∧ c ≤ 46) ∨ (47 ≤ c ∧ c ≤ 47) ∨ (48 ≤ c ∧ c ≤ 57) ∨ (58 ≤ c ∧ c ≤ 64) ∨ (65 ≤ c ∧ c ≤ 70) ∨ (71 ≤ c ∧ c ≤ 90) ∨ (91 ≤ c ∧ c ≤ 94) ∨ (95 ≤ c ∧ c ≤ 95) ∨ (96 ≤ c ∧ c ≤ 96) ∨ (97 ≤ c ∧ c ≤ 102) ∨ (103 ≤ c ∧ c ≤ 122) ∨ (123 ≤ c ∧ c ≤ 255) := by omega
 rcases hc with hc | hc | hc | hc | hc | hc | hc | hc | hc | hc | hc | hc | hc
 ·have hv : clsN c = 0 := by unfold clsN; (repeat (first | rw [if_pos (by omega)] | rw [if_neg (by omega)]))
  rw [hv]
  have h1 : ¬ (48 : Int) ≤ (c : Int) := by omega
  have h2 : (c : Int) ≤ 57 := by omega
  have h3 : ¬ (97 : Int) ≤ (c : Int) := by omega
  have h4 : (c : Int) ≤ 102 := by omega
  have h5 : ¬ (65 : Int) ≤ (c : Int) := by omega
  have h6 : (c : Int) ≤ 70 := by omega
  have h7 : (c : Int) ≤ 122 := by omega
  have h8 : (c : Int) ≤ 90 := by omega
  have h9 : ((c : Int) == 95) = false := beq_eq_false_iff_ne.2 (by omega)
  have h10 : ((c : Int) == 46) = false := beq_eq_false_iff_ne.2 (by omega)
  clear hc hv
  go_enter Tryz.func129, Tryz.ntmps129
  go_wp2_with fail
  go_ret
  exact ⟨rfl, rfl⟩
 ·have hv : clsN c = 4 := by unfold clsN; (repeat (first | rw [if_pos (by omega)] | rw [if_neg (by omega)]))
  rw [hv]
  have h1 : ¬ (48 : Int) ≤ (c : Int) := by omega
  have h2 : (c : Int) ≤ 57 := by omega
  have h3 : ¬ (97 : Int) ≤ (c : Int) := by omega
  have h4 : (c : Int) ≤ 102 := by omega
  have h5 : ¬ (65 : Int) ≤ (c : Int) := by omega
  have h6 : (c : Int) ≤ 70 := by omega
  have h7 : (c : Int) ≤ 122 := by omega
  have h8 : (c : Int) ≤ 90 := by omega
  have h9 : ((c : Int) == 95) = false := beq_eq_false_iff_ne.2 (by omega)
  have h10 : ((c : Int) == 46) = true := beq_iff_eq.2 (by omega)
  clear hc hv
  go_enter Tryz.func129, Tryz.ntmps129
  go_wp2_with fail
  go_ret
  exact ⟨rfl, rfl⟩
 ·have hv : clsN c = 0 := by unfold clsN; (repeat (first | rw [if_pos (by omega)] | rw [if_neg (by omega)]))
  rw [hv]
  have h1 : ¬ (48 : Int) ≤ (c : Int) := by omega
  have h2 : (c : Int) ≤ 57 := by omega
  have h3 : ¬ (97 : Int) ≤ (c : Int) := by omega
  have h4 : (c : Int) ≤ 102 := by omega
  have h5 : ¬ (65 : Int) ≤ (c : Int) := by omega
  have h6 : (c : Int) ≤ 70 := by omega
  have h7 : (c : Int) ≤ 122 := by omega
  have h8 : (c : Int) ≤ 90 := by omega
  have h9 : ((c : Int) == 95) = false := beq_eq_false_iff_ne.2 (by omega)
  have h10 : ((c : Int) == 46) = false := beq_eq_false_iff_ne.2 (by omega)
  clear hc hv
  go_enter Tryz.func129, Tryz.ntmps129
  go_wp2_with fail
  go_ret
  exact ⟨rfl, rfl⟩
 ·have hv : clsN c = 7 := by unfold clsN; (repeat (first | rw [if_pos (by omega)] | rw [if_neg (by omega)]))
  rw [hv]
  have h1 : (48 : Int) ≤ (c : Int) := by omega
  have h2 : (c : Int) ≤ 57 := by omega
  have h3 : ¬ (97 : Int) ≤ (c : Int) := by omega
  have h4 : (c : Int) ≤ 102 := by omega
  have h5 : ¬ (65 : Int) ≤ (c : Int) := by omega
  have h6 : (c : Int) ≤ 70 := by omega
  have h7 : (c : Int) ≤ 122 := by omega
  have h8 : (c : Int) ≤ 90 := by omega
  have h9 : ((c : Int) == 95) = false := beq_eq_false_iff_ne.2 (by omega)
  have h10 : ((c : Int) == 46) = false := beq_eq_false_iff_ne.2 (by omega)
  clear hc hv
  go_enter Tryz.func129, Tryz.ntmps129
  go_wp2_with fail
  go_ret
  exact ⟨rfl, rfl⟩
 ·have hv : clsN c = 0 := by unfold clsN; (repeat (first | rw [if_pos (by omega)] | rw [if_neg (by omega)]))
  rw [hv]
  have h1 : (48 : Int) ≤ (c : Int) := by omega
  have h2 : ¬ (c : Int) ≤ 57 := by omega
  have h3 : ¬ (97 : Int) ≤ (c : Int) := by omega
  have h4 : (c : Int) ≤ 102 := by omega
  have h5 : ¬ (65 : Int) ≤ (c : Int) := by omega
  have h6 : (c : Int) ≤ 70 := by omega
  have h7 : (c : Int) ≤ 122 := by omega
  have h8 : (c : Int) ≤ 90 := by omega
  have h9 : ((c : Int) == 95) = false := beq_eq_false_iff_ne.2 (by omega)
  have h10 : ((c : Int) == 46) = false := beq_eq_false_iff_ne.2 (by omega)
  clear hc hv
  go_enter Tryz.func129, Tryz.ntmps129
  go_wp2_with fail
  go_ret
  exact ⟨rfl, rfl⟩
 ·have hv : clsN c = 6 := by unfold clsN; (repeat (first | rw [if_pos (by omega)] | rw [if_neg (by omega)]))
  rw [hv]
  have h1 : (48 : Int) ≤ (c : Int) := by omega
  have h2 : ¬ (c : Int) ≤ 57 := by omega
  have h3 : ¬ (97 : Int) ≤ (c : Int) := by omega
  have h4 : (c : Int) ≤ 102 := by omega
  have h5 : (65 : Int) ≤ (c : Int) := by omega
  have h6 : (c : Int) ≤ 70 := by omega
  have h7 : (c : Int) ≤ 122 := by omega
  have h8 : (c : Int) ≤ 90 := by omega
  have h9 : ((c : Int) == 95) = false := beq_eq_false_iff_ne.2 (by omega)
  have h10 : ((c : Int) == 46) = false := beq_eq_false_iff_ne.2 (by omega)
  clear hc hv
  go_enter Tryz.func129, Tryz.ntmps129
  go_wp2_with fail
  go_ret
  exact ⟨rfl, rfl⟩
 ·have hv : clsN c = 4 := by unfold clsN; (repeat (first | rw [if_pos (by omega)] | rw [if_neg (by omega)]))
  rw [hv]
  have h1 : (48 : Int) ≤ (c : Int) := by omega
  have h2 : ¬ (c : Int) ≤ 57 := by omega
  have h3 : ¬ (97 : Int) ≤ (c : Int) := by omega
  have h4 : (c : Int) ≤ 102 := by omega
  have h5 : (65 : Int) ≤ (c : Int) := by omega
  have h6 : ¬ (c : Int) ≤ 70 := by omega
  have h7 : (c : Int) ≤ 122 := by omega
  have h8 : (c : Int) ≤ 90 := by omega
  have h9 : ((c : Int) == 95) = false := beq_eq_false_iff_ne.2 (by omega)
  have h10 : ((c : Int) == 46) = false := beq_eq_false_iff_ne.2 (by omega)
  clear hc hv
  go_enter Tryz.func129, Tryz.ntmps129
  go_wp2_with fail
  go_ret
  exact ⟨rfl, rfl⟩
 ·have hv : clsN c = 0 := by unfold clsN; (repeat (first | rw [if_pos (by omega)] | rw [if_neg (by omega)]))
  rw [hv]
  have h1 : (48 : Int) ≤ (c : Int) := by omega
  have h2 : ¬ (c : Int) ≤ 57 := by omega
  have h3 : ¬ (97 : Int) ≤ (c : Int) := by omega
  have h4 : (c : Int) ≤ 102 := by omega
  have h5 : (65 : Int) ≤ (c : Int) := by omega
  have h6 : ¬ (c : Int) ≤ 70 := by omega
  have h7 : (c : Int) ≤ 122 := by omega
  have h8 : ¬ (c : Int) ≤ 90 := by omega
  have h9 : ((c : Int) == 95) = false := beq_eq_false_iff_ne.2 (by omega)
  have h10 : ((c : Int) == 46) = false := beq_eq_false_iff_ne.2 (by omega)
  clear hc hv
  go_enter Tryz.func129, Tryz.ntmps129
  go_wp2_with fail
  go_ret
  exact ⟨rfl, rfl⟩
 ·have hv : clsN c = 4 := by unfold clsN; (repeat (first | rw [if_pos (by omega)] | rw [if_neg (by omega)]))
  rw [hv]
  have h1 : (48 : Int) ≤ (c : Int) := by omega
  have h2 : ¬ (c : Int) ≤ 57 := by omega
  have h3 : ¬ (97 : Int) ≤ (c : Int) := by omega
  have h4 : (c : Int) ≤ 102 := by omega
  have h5 : (65 : Int) ≤ (c : Int) := by omega
  have h6 : ¬ (c : Int) ≤ 70 := by omega
  have h7 : (c : Int) ≤ 122 := by omega
  have h8 : ¬ (c : Int) ≤ 90 := by omega
  have h9 : ((c : Int) == 95) = true := beq_iff_eq.2 (by omega)
  have h10 : ((c : Int) == 46) = false := beq_eq_false_iff_ne.2 (by omega)
  clear hc hv
  go_enter Tryz.func129, Tryz.ntmps129
  go_wp2_with fail
  go_ret
  exact ⟨rfl, rfl⟩
 ·have hv : clsN c = 0 := by unfold clsN; (repeat (first | rw [if_pos (by omega)] | rw [if_neg (by omega)]))
  rw [hv]
  have h1 : (48 : Int) ≤ (c : Int) := by omega
  have h2 : ¬ (c : Int) ≤ 57 := by omega
  have h3 : ¬ (97 : Int) ≤ (c : Int) := by omega
  have h4 : (c : Int) ≤ 102 := by omega
  have h5 : (65 : Int) ≤ (c : Int) := by omega
  have h6 : ¬ (c : Int) ≤ 70 := by omega
  have h7 : (c : Int) ≤ 122 := by omega
  have h8 : ¬ (c : Int) ≤ 90 := by omega
  have h9 : ((c : Int) == 95) = false := beq_eq_false_iff_ne.2 (by omega)
  have h10 : ((c : Int) == 46) = false := beq_eq_false_iff_ne.2 (by omega)
  clear hc hv
  go_enter Tryz.func129, Tryz.ntmps129
  go_wp2_with fail
  go_ret
  exact ⟨rfl, rfl⟩
 ·have hv : clsN c = 6 := by unfold clsN; (repeat (first | rw [if_pos (by omega)] | rw [if_neg (by omega)]))
  rw [hv]
  have h1 : (48 : Int) ≤ (c : Int) := by omega
  have h2 : ¬ (c : Int) ≤ 57 := by omega
  have h3 : (97 : Int) ≤ (c : Int) := by omega
  have h4 : (c : Int) ≤ 102 := by omega
  have h5 : (65 : Int) ≤ (c : Int) := by omega
  have h6 : ¬ (c : Int) ≤ 70 := by omega
  have h7 : (c : Int) ≤ 122 := by omega
  have h8 : ¬ (c : Int) ≤ 90 := by omega
  have h9 : ((c : Int) == 95) = false := beq_eq_false_iff_ne.2 (by omega)
  have h10 : ((c : Int) == 46) = false := beq_eq_false_iff_ne.2 (by omega)
  clear hc hv
  go_enter Tryz.func129, Tryz.ntmps129
  go_wp2_with fail
  go_ret
  exact ⟨rfl, rfl⟩
 ·have hv : clsN c = 4 := by unfold clsN; (repeat (first | rw [if_pos (by omega)] | rw [if_neg (by omega)]))
  rw [hv]
  have h1 : (48 : Int) ≤ (c : Int) := by omega
  have h2 : ¬ (c : Int) ≤ 57 := by omega
  have h3 : (97 : Int) ≤ (c : Int) := by omega
  have h4 : ¬ (c : Int) ≤ 102 := by omega
  have h5 : (65 : Int) ≤ (c : Int) := by omega
  have h6 : ¬ (c : Int) ≤ 70 := by omega
  have h7 : (c : Int) ≤ 122 := by omega
  have h8 : ¬ (c : Int) ≤ 90 := by omega
  have h9 : ((c : Int) == 95) = false := beq_eq_false_iff_ne.2 (by omega)
  have h10 : ((c : Int) == 46) = false := beq_eq_false_iff_ne.2 (by omega)
  clear hc hv
  go_enter Tryz.func129, Tryz.ntmps129
  go_wp2_with fail
  go_ret
  exact ⟨rfl, rfl⟩
 ·have hv : clsN c = 0 := by unfold clsN; (repeat (first | rw [if_pos (by omega)] | rw [if_neg (by omega)]))
  rw [hv]
  have h1 : (48 : Int) ≤ (c : Int) := by omega
  have h2 : ¬ (c : Int) ≤ 57 := by omega
  have h3 : (97 : Int) ≤ (c : Int) := by omega
  have h4 : ¬ (c : Int) ≤ 102 := by omega
  have h5 : (65 : Int) ≤ (c : Int) := by omega
  have h6 : ¬ (c : Int) ≤ 70 := by omega
  have h7 : ¬ (c : Int) ≤ 122 := by omega
  have h8 : ¬ (c : Int) ≤ 90 := by omega
  have h9 : ((c : Int) == 95) = false := beq_eq_false_iff_ne.2 (by omega)
  have h10 : ((c : Int) == 46) = false := beq_eq_false_iff_ne.2 (by omega)
  clear hc hv
  go_enter Tryz.func129, Tryz.ntmps129
  go_wp2_with fail
  go_ret
  exact ⟨rfl, rfl⟩
def isDig (c : Nat) : Bool := decide (48 ≤ c ∧ c ≤ 57)
def isHex (c : Nat) : Bool := decide (dvN c < 16)
def isPart (c : Nat) : Bool := decide (clsN c ≠ 0)
theorem dig_cls (c : Nat) : isDig c = decide (clsN c = 7) := by
 unfold isDig clsN
 rw [Bool.eq_iff_iff]
 simp only [decide_eq_true_eq]
 split
 ·simp; omega
 ·split
  ·simp; omega
  ·split <;> (simp; omega)
theorem hex_cls (c : Nat) : isHex c = decide (clsN c = 7 ∨ clsN c = 6) := by
 unfold isHex dvN clsN
 rw [Bool.eq_iff_iff]
 simp only [decide_eq_true_eq]
 split
 ·simp; omega
 ·split
  ·rw [if_pos (by omega)]; simp; omega
  ·split
   ·rw [if_pos (by omega)]; simp; omega
   ·rw [if_neg (by omega)]
    split <;> simp
set_option maxRecDepth 100000 in
set_option maxHeartbeats 4000000 in
theorem has1_run (c : Nat) (h : c < 256) (w : World) :
  Calls Tryz.prog 98 #[.int .i64 1, .int .u8 (c : Int)] w fun e w' => e = .returned (.bool (isDig c)) ∧ w' = w := by
 have HC := Lib.hid (fun W => classes_run c h W)
 rw [dig_cls]
 rcases clsN_cases c with hv | hv | hv | hv <;> rw [hv] at HC ⊢ <;> clear hv <;>
 ·go_enter Tryz.func98, Tryz.ntmps98
  go_wp2_with fail
  refine (HC.out _).mono ?_
  rintro e w1 ⟨rfl, rfl⟩
  go_wp2_with fail
  go_ret
  exact ⟨rfl, rfl⟩
set_option maxRecDepth 100000 in
set_option maxHeartbeats 4000000 in
theorem has2_run (c : Nat) (h : c < 256) (w : World) :
  Calls Tryz.prog 98 #[.int .i64 2, .int .u8 (c : Int)] w fun e w' => e = .returned (.bool (isHex c)) ∧ w' = w := by
 have HC := Lib.hid (fun W => classes_run c h W)
 rw [hex_cls]
 rcases clsN_cases c with hv | hv | hv | hv <;> rw [hv] at HC ⊢ <;> clear hv <;>
 ·go_enter Tryz.func98, Tryz.ntmps98
  go_wp2_with fail
  refine (HC.out _).mono ?_
  rintro e w1 ⟨rfl, rfl⟩
  go_wp2_with fail
  go_ret
  exact ⟨rfl, rfl⟩
set_option maxRecDepth 100000 in
set_option maxHeartbeats 4000000 in
theorem has4_run (c : Nat) (h : c < 256) (w : World) :
  Calls Tryz.prog 98 #[.int .i64 4, .int .u8 (c : Int)] w fun e w' => e = .returned (.bool (isPart c)) ∧ w' = w := by
 have HC := Lib.hid (fun W => classes_run c h W)
 unfold isPart
 rcases clsN_cases c with hv | hv | hv | hv <;> rw [hv] at HC ⊢ <;> clear hv <;>
 ·go_enter Tryz.func98, Tryz.ntmps98
  go_wp2_with fail
  refine (HC.out _).mono ?_
  rintro e w1 ⟨rfl, rfl⟩
  go_wp2_with fail
  go_ret
  exact ⟨rfl, rfl⟩
def isSgn (c : Nat) : Bool := decide (c = 43 ∨ c = 45)
def isMrk (c : Nat) : Bool := decide (c = 101 ∨ c = 69)
set_option maxRecDepth 100000 in
theorem isSign_run (c : Nat) (w : World) :
  Calls Tryz.prog 100 #[.int .u8 (c : Int)] w fun e w' => e = .returned (.bool (isSgn c)) ∧ w' = w := by
 unfold isSgn
 by_cases h1 : c = 43
 ·subst h1
  go_enter Tryz.func100, Tryz.ntmps100
  go_wp2_with fail
  go_ret
  exact ⟨rfl, rfl⟩
 ·have e1 : ((c : Int) == 43) = false := beq_eq_false_iff_ne.2 (by omega)
  by_cases h2 : c = 45
  ·subst h2
   go_enter Tryz.func100, Tryz.ntmps100
   go_wp2_with fail
   go_ret
   exact ⟨rfl, rfl⟩
  ·have e2 : ((c : Int) == 45) = false := beq_eq_false_iff_ne.2 (by omega)
   rw [decide_eq_false (by omega)]
   clear h1 h2
   go_enter Tryz.func100, Tryz.ntmps100
   go_wp2_with fail
   go_ret
   exact ⟨rfl, rfl⟩
theorem mark_index (c : UInt8) : decide ((0 : Int) ≤ Lib.indexByte [101, 69] c) = isMrk c.toNat := by
 rw [← Lib.contains_iff_indexByte]
 unfold isMrk
 rw [Bool.eq_iff_iff]
 simp only [List.contains_iff_mem, List.mem_cons, List.mem_nil_iff, or_false, decide_eq_true_eq]
 constructor
 ·rintro (rfl | rfl)
  ·exact .inl rfl
  ·exact .inr rfl
 ·rintro (h | h)
  ·exact .inl (UInt8.toNat_inj.1 h)
  ·exact .inr (UInt8.toNat_inj.1 h)
set_option maxRecDepth 100000 in
theorem isMark_run (c : UInt8) (w : World) :
  Calls Tryz.prog 101 #[.int .u8 (c.toNat : Int)] w fun e w' => e = .returned (.bool (isMrk c.toNat)) ∧ w' = w := by
 have HI := fun W => Tryz.strings_IndexByte ⟨#[101, 69]⟩ (c.toNat : Int) W
 have hb : ((c.toNat : Int)).toNat.toUInt8 = c := by simp
 have hl : (⟨#[101, 69]⟩ : ByteArray).data.toList = [101, 69] := rfl
 rw [hb, hl] at HI
 have hm := mark_index c
 rw [← hm]
 generalize Lib.indexByte [101, 69] c = z at *
 replace HI := Lib.hid HI
 generalize c.toNat = cn at *
 clear hb hl hm
 go_enter Tryz.func101, Tryz.ntmps101
 go_wp2_with fail
 refine (HI.out _).mono ?_
 rintro e w1 ⟨rfl, rfl⟩
 go_wp2_with fail
 go_ret
 exact ⟨rfl, rfl⟩
end Go.Proofs.YtgkhjeefcflmcaaGreatDoor
namespace Go.Proofs.YtgkhjeefcflmcaaGreatDoor
open Go.RowKit Go.Sort
set_option linter.unusedSimpArgs false
def midW (B a d j : Nat) : Nat → Nat := fun t => if t < j then wd (B * a + 0 * 0 + d) t else wd a t
theorem midW_zero (B a d : Nat) : ∀ t, t < 8 → wd a t = midW B a d 0 t := fun t _ => by unfold midW; rw [if_neg (by omega)]
theorem midW_at (B a d j : Nat) : midW B a d j j = wd a j := by unfold midW; rw [if_neg (by omega)]
theorem midW_end (B a d : Nat) : ∀ t, t < 8 → midW B a d 8 t = wd (a * B + d) t := fun t ht => by
 unfold midW
 rw [if_pos ht, show B * a + 0 * 0 + d = a * B + d by rw [Nat.mul_comm]; omega]
theorem midW_step {B a d j v : Nat} (h : v = wd (B * a + 0 * 0 + d) j) : ∀ t, t < 8 → updF (midW B a d j) j v t = midW B a d (j + 1) t := fun t _ => by
 by_cases e : t = j
 ·subst e
  rw [updF_same]
  unfold midW
  rw [if_pos (by omega)]
  exact h
 ·rw [updF_other e]
  unfold midW
  by_cases e2 : t < j
  ·rw [if_pos e2, if_pos (by omega)]
  ·rw [if_neg e2, if_neg (by omega)]
theorem big_carry {B a d : Nat} (ha : Fits a) : car 18446744073709551616 B a 0 0 d 8 = (a * B + d) / 18446744073709551616 ^ 8 := by
 rw [car_top (a := a) (b := 0) 18446744073709551616 B 0 d 8 ha (Nat.pow_pos (by decide)), show B * a + 0 * 0 + d = a * B + d by rw [Nat.mul_comm]; omega]
theorem carry_zero {B a d c : Nat} (ha : Fits a) (hc : c = car 18446744073709551616 B a 0 0 d 8) : c = 0 ↔ Fits (a * B + d) := by
 rw [hc, big_carry ha]
 unfold Fits
 constructor
 ·intro h
  have := Nat.div_eq_zero_iff.1 h
  rcases this with h1 | h1
  ·exact absurd h1 (Nat.ne_of_gt (Nat.pow_pos (by decide)))
  ·exact h1
 ·exact fun h => Nat.div_eq_of_lt h
def BytsAt (w : World) (b : Nat) (s : ByteArray) : Prop := ∀ (i : Nat) (c : UInt8), s.data.toList[i]? = some c → w.cell? ⟨b, i, none⟩ = some (.int .u8 (c.toNat : Int))
theorem BytsAt.but {w w' : World} {b c : Nat} {s : ByteArray} (h : BytsAt w b s) (hw : But1 w w' c) (hne : b ≠ c) : BytsAt w' b s := fun i x hx => (hw.1 ⟨b, i, none⟩ hne).1.trans (h i x hx)
theorem BytsAt.keep {w w' : World} {b B : Nat} {s : ByteArray} (h : BytsAt w b s) (hw : Below B w w') (hb : b < B) : BytsAt w' b s := fun i x hx => (hw.cell (p := ⟨b, i, none⟩) hb).trans (h i x hx)
set_option maxRecDepth 100000 in
set_option maxHeartbeats 8000000 in
theorem read_run (s : ByteArray) (B : Nat) (w : World) (hB1 : 2 ≤ B) (hB : B ≤ 16) (hs : s.size ≤ 100000) (hne : s.size ≠ 0) (hd : Hid (okDig B s.data.toList = true)) :
  Calls Tryz.prog 159 #[.string s, .int .i64 (B : Int)] w fun e w' => e = .returned (.tuple #[intV false (parN B s.data.toList), errV (parK B s.data.toList)]) ∧ Below w.heap.size w w' := by
 obtain ⟨S, hS⟩ : ∃ S, w.heap.size = S := ⟨_, rfl⟩
 obtain ⟨W, hW⟩ : ∃ W, (w.alloc (boxIZ 92)).alloc (boxZ 217) = W := ⟨_, rfl⟩
 have I0 := IntAt.zero w 92
 have b0 := below_alloc w (boxIZ 92)
 have z0 : (w.alloc (boxIZ 92)).heap.size = S + 1 := by simp [hS]
 have I1 := I0.alloc (by omega) (boxZ 217)
 have K1 := WordsAt.zero (w.alloc (boxIZ 92)) 217
 have b1 := b0.alloc (by omega) (boxZ 217)
 have z1 : ((w.alloc (boxIZ 92)).alloc (boxZ 217)).heap.size = S + 1 + 1 := by simp [hS]
 rw [show (w.alloc (boxIZ 92)).alloc (.cells #[.int .u64 0, .int .u64 0, .int .u64 0, .int .u64 0, .int .u64 0, .int .u64 0, .int .u64 0, .int .u64 0] 217) = W from hW, z0] at K1
 rw [hW, hS] at I1 b1
 rw [hW] at z1
 obtain ⟨cap, w2, hconv, hc1, hc2, hby, hbl⟩ := run_conv_str W s (by unfold maxLen; omega)
 rw [z1] at hconv hby hbl
 have HI := Lib.hid (I1.keep hbl (by omega))
 have HK := Lib.hid (show WordsAt w2 (S + 1) 0 (num B (s.data.toList.take 0)) 8 from K1.keep hbl (by omega))
 have HW := Lib.hid (b1.trans (hbl.mono (by omega)))
 have HZ : Hid (S + 1 + 1 + 1 ≤ w2.heap.size) := by
  obtain ⟨b', o', e, hlt, _⟩ := hby.2 (by rw [bts_length]; omega)
  cases e
  exact hlt
 have HY : Hid (BytsAt w2 (S + 1 + 1) s) := fun i c h => byts_get hby h
 have hcp : s.size ≤ cap ∧ cap ≤ 9223372036854775807 := ⟨hc1, by unfold maxLen at hc2; exact hc2⟩
 clear I0 b0 z0 I1 K1 b1 hby hbl hc1 hc2
 rw [hS]
 go_enter Tryz.func159, Tryz.ntmps159
 go_wp2_with fail
 clear hW hconv
 go_loopg [14] (s.size + 1) (fun h s14 wr => ∃ i : Nat, s14 = .int .i64 (i : Int) ∧ Hid (i + h = s.size + 1) ∧ i ≤ s.size ∧ Hid (Fits (num B (s.data.toList.take i))) ∧ Hid (IntAt wr S false 0) ∧ Hid (WordsAt wr (S + 1) 0 (num B (s.data.toList.take i)) 8) ∧ Hid (Below S w wr ∧ BytsAt wr (S + 1 + 1) s))
 case atStart => exact ⟨0, rfl, by show _ = _; omega, by omega, Nat.pow_pos (by decide), HI, HK, HW.out, HY.out⟩
 case round =>
  clear HI HK HW HY
  obtain ⟨i, rfl, HJ, hin, HF, HI, HK, HW⟩ := hrel
  by_cases hlt : i < s.size
  ·have hiz : (i : Int) < (s.size : Int) := by omega
   obtain ⟨c, hc⟩ := get_of_lt hlt
   have hcell := HW.out.2 i c hc
   have HDG := Lib.hid (fun V => digit_runL c.toNat (UInt8.toNat_lt c) V)
   have hdB := okDig_get hd.out hc
   have HS : Hid (num B (s.data.toList.take (i + 1)) = num B (s.data.toList.take i) * B + dvN c.toNat) := by
    show _ = _
    rw [take_succ_of hc, num_snoc]
   have HT : Hid (∀ k, num B (s.data.toList.take k) ≤ num B s.data.toList) := fun k => num_take (by omega) _ k
   have hd16 : dvN c.toNat ≤ 16 := dvN_le _
   generalize dvN c.toNat = d at *
   generalize c.toNat = cn at *
   obtain ⟨a, ha⟩ : ∃ a, num B (s.data.toList.take i) = a := ⟨_, rfl⟩
   rw [ha] at HF HK HS
   clear ha hc
   go_wp2_with fail
   refine (HDG.out _).mono ?_
   rintro e w3 ⟨rfl, rfl⟩
   go_wp2_with fail
   clear hcell
   have HK0 := Lib.hid (HK.out.ext (midW_zero B a d))
   clear HK
   go_loopg [9, 21] 9 (fun h s9 s21 wr => ∃ j c : Nat, s9 = .int .u64 (c : Int) ∧ s21 = .int .i64 (j : Int) ∧ Hid (j + h = 9) ∧ j ≤ 8 ∧ c < 18446744073709551616 ∧ Hid (c = car 18446744073709551616 B a 0 0 d j) ∧ Hid (IntAt wr S false 0) ∧ Hid (WordsF wr (S + 1) 0 (midW B a d j) 8) ∧ Hid (Below S w wr ∧ BytsAt wr (S + 1 + 1) s))
   case atStart => exact ⟨0, d, rfl, rfl, by show _ = _; omega, by omega, by omega, (car_zero _ _ _ _ _ _).symm, HI, HK0, HW⟩
   case round =>
    clear HI HK0 HW
    obtain ⟨j, cc, rfl, rfl, HJ8, hj8, hc64, HC, HI, HK, HW⟩ := hrel
    by_cases hj : j < 8
    ·have hjz : (j : Int) < 8 := by omega
     obtain ⟨c1, c2⟩ := HK.out j hj
     rw [midW_at, Nat.zero_add] at c1
     rw [Nat.zero_add] at c2
     have hx64 := wd_lt a j
     have MA := fun V => multiplyAdd_run (wd a j) B cc 0 V hx64 (by omega) hc64 (by decide)
     have e1 : wd a j * B + cc + 0 = B * dig 18446744073709551616 a j + 0 * dig 18446744073709551616 0 j + car 18446744073709551616 B a 0 0 d j := by
      rw [← HC.out, Nat.mul_comm]
      show _ = B * wd a j + 0 * _ + cc
      omega
     have e2 := lin_div (B := 18446744073709551616) (by decide) B a 0 0 d j
     have e3 := lin_mod (B := 18446744073709551616) (by decide) B a 0 0 d j
     rw [← e1] at e2 e3
     obtain ⟨u, hu⟩ : ∃ u, (wd a j * B + cc + 0) / 18446744073709551616 = u := ⟨_, rfl⟩
     obtain ⟨v, hv⟩ : ∃ v, (wd a j * B + cc + 0) % 18446744073709551616 = v := ⟨_, rfl⟩
     rw [hu, hv] at MA
     have HU : Hid (u = car 18446744073709551616 B a 0 0 d (j + 1)) := hu.symm.trans e2
     have HV : Hid (v = wd (B * a + 0 * 0 + d) j) := hv.symm.trans e3
     have hu64 : u < 18446744073709551616 := by
      rw [HU.out]
      exact car_lt (by decide) B a 0 0 d (j + 1) (by omega) (by omega)
     simp only [Int.natCast_zero] at MA
     replace MA := Lib.hid MA
     generalize wd a j = x at *
     clear e1 e2 e3 hu hv
     go_wp2_with fail
     refine (MA.out _).mono ?_
     rintro e w4 ⟨rfl, rfl⟩
     go_wp2_with fail
     go_roundg (8 - j)
     case measure => have := HJ8.out; omega
     case rel =>
      refine ⟨j + 1, u, by go_num, by go_num, by show _ = _; have := HJ8.out; omega, by omega, hu64, HU, ?_, ?_, ?_⟩
      ·exact HI.out.but (But1.setCell _ (S + 1) j _) (by omega)
      ·have := (HK.out.upd hj v).ext (midW_step HV.out)
       rwa [Nat.zero_add] at this
      ·exact ⟨HW.out.1.setCell (p := ⟨S + 1, j, none⟩) (by show S ≤ S + 1; omega) _, HW.out.2.but (But1.setCell _ (S + 1) j _) (by omega)⟩
    ·obtain rfl : j = 8 := by omega
     have HZ0 := carry_zero HF.out HC.out
     have HKE : Hid (WordsAt wr (S + 1) 0 (a * B + d) 8) := HK.out.ext (midW_end B a d)
     by_cases hcc : cc = 0
     ·have HFT := Lib.hid (HZ0.1 hcc)
      subst hcc
      clear HZ0
      go_wp2_with fail
      go_roundg (s.size - i)
      case measure => have := HJ.out; omega
      case rel => exact ⟨i + 1, by go_num, by show _ = _; have := HJ.out; omega, by omega, by rw [HS.out]; exact HFT, HI, by rw [HS.out]; exact HKE, HW⟩
     ·have hcz : ¬ ((cc : Int) = 0) := by omega
      have HNF : Hid (¬ Fits (num B s.data.toList)) := fun hf => hcc (HZ0.2 (Nat.lt_of_le_of_lt (by rw [← HS.out]; exact HT.out _) hf))
      have HPK := Lib.hid (parK_over hd.out (not_nil_of hne) HNF.out)
      have HPN := Lib.hid (parN_no (B := B) (l := s.data.toList) (by rw [HPK.out]; decide))
      clear HZ0 hcc
      go_wp2_with (first | (with_reducible refine wpList_val (v := intV false 0) rfl (build_zeroN rfl) ?_) | (with_reducible refine wpList_store_int rfl (.tmp 4) (.tmp 39) rfl (b := S) (s := false) (n := 0) rfl rfl HI.out ?_))
      refine bodyPost_ret (v := .tuple #[intV false 0, .iface 35 (.int .i64 9)]) (results_int rfl rfl rfl (st9_at HI.out)) rfl ⟨?_, (st9_but wr S false 0).2.1 S w (Nat.le_refl _) HW.out.1⟩
      rw [HPK.out, HPN.out]
      rfl
  ·obtain rfl : i = s.size := by omega
   have HKA := HK.out
   rw [take_all] at HKA
   have HFA := HF.out
   rw [take_all] at HFA
   have HPK := Lib.hid (parK_ok hd.out (not_nil_of hne) HFA)
   have HPN := Lib.hid (parN_ok HPK.out)
   obtain ⟨a, ha⟩ : ∃ a, num B s.data.toList = a := ⟨_, rfl⟩
   rw [ha] at HKA HPN
   replace HKA := Lib.hid HKA
   clear HK HF HFA ha
   go_wp2_with (first | (with_reducible refine wpList_val (v := wordsV a) rfl (ld_wordsB (.tmp 6) rfl rfl HKA.out) ?_) | (with_reducible refine wpList_val (v := intV false a) rfl (build_words (x := .tmp 42) rfl rfl) ?_) | (with_reducible refine wpList_store_int rfl (.tmp 4) (.tmp 43) rfl (b := S) (s := false) (n := a) rfl rfl HI.out ?_))
   refine bodyPost_ret (v := .tuple #[intV false a, .nilIface]) (results_int rfl rfl rfl (st9_at HI.out)) rfl ⟨?_, (st9_but wr S false a).2.1 S w (Nat.le_refl _) HW.out.1⟩
   rw [HPK.out, HPN.out]
   rfl
theorem isEmpty_no {s : ByteArray} (h : s.size ≠ 0) : s.toList.isEmpty = false := by
 rw [Lib.toList_data]
 cases e : s.data.toList with
 | nil => exact absurd e (not_nil_of h)
 | cons a b => rfl
theorem empty_of {s : ByteArray} (h : s.size = 0) : s = ⟨#[]⟩ := by
 apply ByteArray.ext
 exact Array.eq_empty_of_size_eq_zero h
def Base4 (B : Nat) : Prop := B = 2 ∨ B = 8 ∨ B = 10 ∨ B = 16
set_option maxRecDepth 100000 in
set_option maxHeartbeats 8000000 in
theorem Parse_runZ (s : ByteArray) (B : Nat) (z : Int) (w : World) (hB : z = 2 ∨ z = 8 ∨ z = 10 ∨ z = 16) (hzB : Hid ((B : Int) = z)) (hs : s.size ≤ 100000) :
  Calls Tryz.prog 133 #[.string s, .int .i64 z] w fun e w' => e = .returned (.tuple #[intV false (parN B s.data.toList), errV (parK B s.data.toList)]) ∧ Below w.heap.size w w' := by
 obtain ⟨S, hS⟩ : ∃ S, w.heap.size = S := ⟨_, rfl⟩
 obtain ⟨W, hW⟩ : ∃ W, w.alloc (boxIZ 92) = W := ⟨_, rfl⟩
 have I0 := IntAt.zero w 92
 have b0 := below_alloc w (boxIZ 92)
 have z0 : (w.alloc (boxIZ 92)).heap.size = S + 1 := by simp [hS]
 rw [hW, hS] at I0 b0
 rw [hW] at z0
 have hB2 : 2 ≤ B ∧ B ≤ 16 := by have := hzB.out; omega
 by_cases hne : s.size = 0
 ·obtain rfl := empty_of hne
  have HI := Lib.hid I0
  have HW := Lib.hid b0
  have HPK : Hid (parK B [] = 12) := parK_nil B
  have HPN := Lib.hid (parN_no (B := B) (l := []) (by rw [HPK.out]; decide))
  clear I0 b0 z0 hne hB2
  rw [hS]
  show Calls _ _ _ _ fun e w' => e = .returned (.tuple #[intV false (parN B []), errV (parK B [])]) ∧ _
  rw [HPK.out, HPN.out]
  rcases hB with rfl | rfl | rfl | rfl <;>
  ·go_enter Tryz.func133, Tryz.ntmps133
   go_wp2_with (first | (with_reducible refine wpList_val (v := intV false 0) rfl (build_zeroN rfl) ?_) | (with_reducible refine wpList_store_int rfl (.tmp 4) (.tmp 26) rfl (b := S) (s := false) (n := 0) rfl rfl HI.out ?_))
   refine bodyPost_ret (v := .tuple #[intV false 0, .iface 35 (.int .i64 12)]) (results_int rfl rfl rfl (st9_at HI.out)) rfl ⟨rfl, (st9_but W S false 0).2.1 S w (Nat.le_refl _) HW.out⟩
 ·have he := isEmpty_no hne
  obtain ⟨cap, w2, hconv, hc1, hc2, hby, hbl⟩ := run_conv_str W s (by unfold maxLen; omega)
  rw [z0] at hconv hby hbl
  have HI := Lib.hid (I0.keep hbl (by omega))
  have HW := Lib.hid (b0.trans (hbl.mono (by omega)))
  have HZ : Hid (S + 1 + 1 ≤ w2.heap.size) := by
   obtain ⟨b', o', e, hlt, _⟩ := hby.2 (by rw [bts_length]; omega)
   cases e
   exact hlt
  have HY : Hid (BytsAt w2 (S + 1) s) := fun i c h => byts_get hby h
  have hcp : s.size ≤ cap ∧ cap ≤ 9223372036854775807 := ⟨hc1, by unfold maxLen at hc2; exact hc2⟩
  have hBz : True := trivial
  clear I0 b0 z0 hby hbl hc1 hc2
  rw [hS]
  have HRD : Hid (okDig B s.data.toList = true → ∀ V, Calls Tryz.prog 159 #[.string s, .int .i64 z] V fun e w' => e = .returned (.tuple #[intV false (parN B s.data.toList), errV (parK B s.data.toList)]) ∧ Below V.heap.size V w') := fun hd V => by
   have := read_run s B V hB2.1 hB2.2 hs hne hd
   rwa [hzB.out] at this
  have HNE := Lib.hid (not_nil_of hne)
  clear hB2 hne hBz
  rcases hB with rfl | rfl | rfl | rfl <;>
  ·go_enter Tryz.func133, Tryz.ntmps133
   go_wp2_with fail
   clear hconv hW
   go_loopg [31] (s.size + 1) (fun h s31 wr => ∃ i : Nat, s31 = .int .i64 (i : Int) ∧ Hid (i + h = s.size + 1) ∧ i ≤ s.size ∧ Hid (∀ k c, k < i → s.data.toList[k]? = some c → dvN c.toNat < B) ∧ wr = w2)
   case atStart => exact ⟨0, rfl, by show _ = _; omega, by omega, fun k c hk _ => absurd hk (by omega), rfl⟩
   case round =>
    obtain ⟨i, rfl, HJ, hin, HD, rfl⟩ := hrel
    by_cases hlt : i < s.size
    ·have hiz : (i : Int) < (s.size : Int) := by omega
     obtain ⟨c, hc⟩ := get_of_lt hlt
     have hcell := HY.out i c hc
     have HDG := Lib.hid (fun V => digit_runL c.toNat (UInt8.toNat_lt c) V)
     by_cases hdb : dvN c.toNat < B
     ·have HD2 : Hid (∀ k c, k < i + 1 → s.data.toList[k]? = some c → dvN c.toNat < B) := fun k x hk hx => by
       by_cases e : k = i
       ·subst e; rw [hc] at hx; cases hx; exact hdb
       ·exact HD.out k x (by omega) hx
      have hdz := Lib.hid (show (dvN c.toNat : Int) < (B : Int) by omega)
      rw [hzB.out] at hdz
      have hdz := hdz.out
      clear hc hdb
      generalize dvN c.toNat = d at *
      generalize c.toNat = cn at *
      go_wp2_with fail
      refine (HDG.out _).mono ?_
      rintro e w3 ⟨rfl, rfl⟩
      go_wp2_with fail
      go_roundg (s.size - i)
      case measure => have := HJ.out; omega
      case rel => exact ⟨i + 1, by go_num, by show _ = _; have := HJ.out; omega, by omega, HD2, rfl⟩
     ·have HPK := Lib.hid (parK_dig (okDig_not hc hdb) HNE.out)
      have HPN := Lib.hid (parN_no (B := B) (l := s.data.toList) (by rw [HPK.out]; decide))
      have hdz : (B : Int) ≤ (dvN c.toNat : Int) := by omega
      rw [hzB.out] at hdz
      clear hc hdb
      generalize dvN c.toNat = d at *
      generalize c.toNat = cn at *
      go_wp2_with fail
      refine (HDG.out _).mono ?_
      rintro e w3 ⟨rfl, rfl⟩
      go_wp2_with (first | (with_reducible refine wpList_val (v := intV false 0) rfl (build_zeroN rfl) ?_) | (with_reducible refine wpList_store_int rfl (.tmp 4) (.tmp 39) rfl (b := S) (s := false) (n := 0) rfl rfl HI.out ?_))
      refine bodyPost_ret (v := .tuple #[intV false 0, .iface 35 (.int .i64 13)]) (results_int rfl rfl rfl (st9_at HI.out)) rfl ⟨?_, (st9_but w3 S false 0).2.1 S w (Nat.le_refl _) HW.out⟩
      rw [HPK.out, HPN.out]
      rfl
    ·obtain rfl : i = s.size := by omega
     have hd : okDig B s.data.toList = true := okDig_of (fun k c h => HD.out k c (by have := (List.getElem?_eq_some_iff.1 h).1; simpa using this) h)
     have HR := Lib.hid (fun V => HRD.out hd V)
     clear hd HRD
     obtain ⟨N, hN⟩ : ∃ N, parN B s.data.toList = N := ⟨_, rfl⟩
     obtain ⟨ev, hev⟩ : ∃ ev, errV (parK B s.data.toList) = ev := ⟨_, rfl⟩
     rw [hN, hev] at HR
     have HNN := Lib.hid hN
     have HEV := Lib.hid hev
     clear hN hev
     go_wp2_with fail
     refine (HR.out _).mono ?_
     rintro e w3 ⟨rfl, hw3⟩
     have HI3 := Lib.hid (HI.out.keep hw3 (by have := HZ.out; omega))
     have HW3 := Lib.hid (HW.out.trans (hw3.mono (by have := HZ.out; omega)))
     clear hw3
     go_wp2_with (with_reducible refine wpList_store_int rfl (.tmp 4) (.tmp 45) rfl (b := S) (s := false) (n := N) rfl rfl HI3.out ?_)
     refine bodyPost_ret (v := .tuple #[intV false N, ev]) (results_int rfl rfl rfl (st9_at HI3.out)) rfl ⟨by rw [HNN.out, HEV.out], (st9_but w3 S false N).2.1 S w (Nat.le_refl _) HW3.out⟩
theorem Parse_runL (s : ByteArray) (B : Nat) (w : World) (hB : Base4 B) (hs : s.size ≤ 100000) :
  Calls Tryz.prog 133 #[.string s, .int .i64 (B : Int)] w fun e w' => e = .returned (.tuple #[intV false (parN B s.data.toList), errV (parK B s.data.toList)]) ∧ Below w.heap.size w w' :=
 Parse_runZ s B (B : Int) w (by unfold Base4 at hB; omega) rfl hs
end Go.Proofs.YtgkhjeefcflmcaaGreatDoor
