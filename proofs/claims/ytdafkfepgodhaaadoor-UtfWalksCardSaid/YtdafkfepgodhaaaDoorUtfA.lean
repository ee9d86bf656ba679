/-
  Contracts of the small functions of package utf and of its reference: announced, continues, isRune, length, Rune. Each only computes.
-/
import Derived.Test.YtdafkfepgodhaaaDoorProg
import Derived.Test.YtdafkfepgodhaaaDoorUtfMath
import Derived.WalkKit
import Derived.WalkSpells
import Derived.WalkLawsBesides
import Derived.IntWalk
import Derived.Lib.Hide
import Derived.Laws.BitsAllLaws
namespace Go.Proofs.YtdafkfepgodhaaaDoor
open Go.RowKit

theorem ret_int {k : IntKind} {a b : Int} (h : a = b) : Ending.returned (.int k a) = .returned (.int k b) := by rw [h]
theorem ret_bool {a b : Bool} (h : a = b) : Ending.returned (.bool a) = .returned (.bool b) := by rw [h]
/-- A fact on every byte, by the 256 of them. -/
theorem byte_all {p : Int → Bool} (h : (List.range 256).all (fun n => p (n : Int)) = true) {c : Int} (h0 : 0 ≤ c) (h1 : c ≤ 255) : p c = true := by
  obtain ⟨n, rfl⟩ := Int.eq_ofNat_of_zero_le h0
  exact List.all_eq_true.1 h n (List.mem_range.2 (by omega))

set_option maxHeartbeats 400000 in
theorem announced_any (c : Int) (w : World) (h0 : 0 ≤ c) (h1 : c ≤ 255) :
    Calls Tryd.prog 22 #[.int .u8 c] w fun e w' => e = .returned (.int .i64 (U.ann c : Int)) ∧ w = w' := by
  go_enter Tryd.func22, Tryd.ntmps22
  go_wp2
  all_goals
    go_ret
    refine ⟨ret_int ?_, rfl⟩
    simp only [U.ann]
    repeat' split
    all_goals first | rfl | omega
theorem cont_bits {c : Int} (h0 : 0 ≤ c) (h1 : c ≤ 255) : (bits BinOp.andNot IntKind.u8 c 63 == 128) = U.cont c := by
  have := byte_all (p := fun c => (bits BinOp.andNot IntKind.u8 c 63 == 128) == U.cont c) (by decide +kernel) h0 h1
  simpa using this
set_option maxHeartbeats 400000 in
theorem continues_any (c : Int) (w : World) (h0 : 0 ≤ c) (h1 : c ≤ 255) :
    Calls Tryd.prog 23 #[.int .u8 c] w fun e w' => e = .returned (.bool (U.cont c)) ∧ w = w' := by
  go_enter Tryd.func23, Tryd.ntmps23
  go_wp2
  go_ret
  exact ⟨ret_bool (cont_bits h0 h1), rfl⟩
set_option maxHeartbeats 400000 in
theorem isRune_any (c : Int) (w : World) :
    Calls Tryd.prog 24 #[.int .i32 c] w fun e w' => e = .returned (.bool (U.isRune c)) ∧ w = w' := by
  go_enter Tryd.func24, Tryd.ntmps24
  go_wp2
  all_goals
    go_ret
    refine ⟨ret_bool ?_, rfl⟩
    rw [Bool.eq_iff_iff, U.isRune_iff]
    simp <;> omega
set_option maxHeartbeats 400000 in
theorem length_any (c : Int) (w : World) :
    Calls Tryd.prog 25 #[.int .i32 c] w fun e w' => e = .returned (.int .i64 (U.rlen c : Int)) ∧ w = w' := by
  go_enter Tryd.func25, Tryd.ntmps25
  go_wp2
  all_goals
    go_ret
    refine ⟨ret_int ?_, rfl⟩
    simp only [U.rlen]
    repeat' split
    all_goals first | rfl | omega
set_option maxHeartbeats 400000 in
theorem Rune_any (c : Int) (w : World) :
    Calls Tryd.prog 26 #[.int .i64 c] w fun e w' => e = .returned (.bool (U.isRune c)) ∧ w = w' := by
  go_enter Tryd.func26, Tryd.ntmps26
  go_wp2
  all_goals
    go_ret
    refine ⟨ret_bool ?_, rfl⟩
    rw [Bool.eq_iff_iff, U.isRune_iff]
    simp <;> omega
end Go.Proofs.YtdafkfepgodhaaaDoor
