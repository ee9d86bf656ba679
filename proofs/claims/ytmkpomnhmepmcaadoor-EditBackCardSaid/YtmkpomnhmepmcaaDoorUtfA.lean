/-
  Contracts of the small functions of package utf and of its reference: announced, continues, isRune, length, Rune. Each only computes.
-/
import Derived.Test.YtmkpomnhmepmcaaDoorBase
import Derived.Test.YtmkpomnhmepmcaaDoorUtfMath
import Derived.WalkKit
import Derived.WalkSpells
import Derived.WalkLawsBesides
import Derived.IntWalk
import Derived.Lib.Hide
import Derived.Laws.BitsAllLaws
namespace Go.Proofs.YtmkpomnhmepmcaaDoor
open Go.RowKit

/-- A fact on every byte, by the 256 of them. -/
theorem byte_all {p : Int → Bool} (h : (List.range 256).all (fun n => p (n : Int)) = true) {c : Int} (h0 : 0 ≤ c) (h1 : c ≤ 255) : p c = true := by
  obtain ⟨n, rfl⟩ := Int.eq_ofNat_of_zero_le h0
  exact List.all_eq_true.1 h n (List.mem_range.2 (by omega))

set_option maxHeartbeats 400000 in
theorem announced_any (c : Int) (w : World) (h0 : 0 ≤ c) (h1 : c ≤ 255) :
    Calls Tryd.prog 50 #[.int .u8 c] w fun e w' => e = .returned (.int .i64 (U.ann c : Int)) ∧ w = w' := by
  go_enter Tryd.func50, Tryd.ntmps50
  go_wp2
  all_goals
    go_ret
    refine ⟨ret_int ?_, rfl⟩
    simp only [U.ann]
    repeat' split
    all_goals first | rfl | omega
theorem cont_bits {c : Int} (h0 : 0 ≤ c) (h1 : c ≤ 255) : (bits BinOp.andNot IntKind.u8 c 63 == 128) = U.cont c := by
  have := byte_all (p := fun c => (bits BinOp.andNot IntKind.u8 c 63 == 128) == U.cont c) (by decide +kernel) h0 h1
  simpa using this
set_option maxHeartbeats 400000 in
theorem continues_any (c : Int) (w : World) (h0 : 0 ≤ c) (h1 : c ≤ 255) :
    Calls Tryd.prog 43 #[.int .u8 c] w fun e w' => e = .returned (.bool (U.cont c)) ∧ w = w' := by
  go_enter Tryd.func43, Tryd.ntmps43
  go_wp2
  go_ret
  exact ⟨ret_bool (cont_bits h0 h1), rfl⟩
set_option maxHeartbeats 400000 in
theorem isRune_any (c : Int) (w : World) :
    Calls Tryd.prog 51 #[.int .i32 c] w fun e w' => e = .returned (.bool (U.isRune c)) ∧ w = w' := by
  go_enter Tryd.func51, Tryd.ntmps51
  go_wp2
  all_goals
    go_ret
    refine ⟨ret_bool ?_, rfl⟩
    rw [Bool.eq_iff_iff, U.isRune_iff]
    simp <;> omega
set_option maxHeartbeats 400000 in
theorem length_any (c : Int) (w : World) :
    Calls Tryd.prog 52 #[.int .i32 c] w fun e w' => e = .returned (.int .i64 (U.rlen c : Int)) ∧ w = w' := by
  go_enter Tryd.func52, Tryd.ntmps52
  go_wp2
  all_goals
    go_ret
    refine ⟨ret_int ?_, rfl⟩
    simp only [U.rlen]
    repeat' split
    all_goals first | rfl | omega
set_option maxHeartbeats 400000 in
theorem Rune_any (c : Int) (w : World) :
    Calls Tryd.prog 45 #[.int .i64 c] w fun e w' => e = .returned (.bool (U.isRune c)) ∧ w = w' := by
  go_enter Tryd.func45, Tryd.ntmps45
  go_wp2
  all_goals
    go_ret
    refine ⟨ret_bool ?_, rfl⟩
    rw [Bool.eq_iff_iff, U.isRune_iff]
    simp <;> omega
end Go.Proofs.YtmkpomnhmepmcaaDoor
