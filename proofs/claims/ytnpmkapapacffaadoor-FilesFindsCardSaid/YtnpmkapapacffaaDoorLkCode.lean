/-
  'Code' of the laws: the number of an error of api, alone or wrapped by At; 0 for nil.
-/
import Derived.Test.YtnpmkapapacffaaDoorLkIs
namespace Go.Proofs.YtnpmkapapacffaaDoor
open Go.RowKit

/-- An error of api's at a place. -/
def lackOf (o : ByteArray) (k : Int) : Value := .iface 64 (.agg #[.string o, errno k])
set_option maxHeartbeats 400000 in
theorem code_nil (w : World) : Calls Tryd.prog 15 #[.nilIface] w fun e w' => e = .returned (.int .i64 0) ∧ Below w.heap.size w w' := by
  go_enter Tryd.func15, Tryd.ntmps15
  go_wp2
  go_ret
  exact ⟨rfl, Below.refl _ _⟩
theorem is_errno_below (a c : Int) (w : World) :
    Calls Tryd.prog 33 #[errno a, errno c] w fun e w' => e = .returned (.bool (a == c)) ∧ Below w.heap.size w w' :=
  (is_errno a c w).mono fun _ _ ⟨h, hw⟩ => ⟨h, hw ▸ Below.refl _ _⟩
set_option maxHeartbeats 1000000 in
theorem code_of {x : Value} {t : TypeId} {v : Value} (hx : Hid (x = .iface t v)) (k : Nat) (h1 : 1 ≤ k) (h25 : k ≤ 25)
    (his : Hid (∀ (c : Int) (w : World), Calls Tryd.prog 33 #[.iface t v, errno c] w fun e w' => e = .returned (.bool ((k : Int) == c)) ∧ Below w.heap.size w w')) (w : World) :
    Calls Tryd.prog 15 #[x] w fun e w' => e = .returned (.int .i64 k) ∧ Below w.heap.size w w' := by
  rw [hx.out]
  clear hx
  go_enter Tryd.func15, Tryd.ntmps15
  go_wp2
  go_loopw [3] (fun c wr => ∃ j : Nat, 1 ≤ j ∧ j ≤ k ∧ c = .int .i64 j ∧ Below w.heap.size w wr) (fun c _ => k - (intOf c).toNat)
  case atStart => exact ⟨1, by omega, h1, rfl, Below.refl _ _⟩
  case round =>
    obtain ⟨j, hj1, hjk, rfl, hbw⟩ := hrel
    have hj25 : decide ((j : Int) ≤ 25) = true := by simp; omega
    by_cases hlt : j < k
    · have hb : ((k : Int) == (j : Int)) = false := by simp; omega
      go_wp2_with (go_at_call 33; refine (his.out _ _).mono ?_; rintro e w1 ⟨rfl, hw1⟩)
      go_roundw
      case rel => exact ⟨j + 1, by omega, by omega, by go_num, hbw.trans (hw1.mono hbw.size)⟩
      case measure => simp [intOf]; omega
    · have hb : ((k : Int) == (j : Int)) = true := by simp; omega
      have e : Hid (j = k) := show j = k by omega
      go_wp2_with (go_at_call 33; refine (his.out _ _).mono ?_; rintro e w1 ⟨rfl, hw1⟩)
      go_ret
      exact ⟨ret_int (by rw [e.out]), hbw.trans (hw1.mono hbw.size)⟩
theorem code_errno (k : Nat) (h1 : 1 ≤ k) (h25 : k ≤ 25) (w : World) :
    Calls Tryd.prog 15 #[errno k] w fun e w' => e = .returned (.int .i64 k) ∧ Below w.heap.size w w' :=
  code_of (show errno k = _ from rfl) k h1 h25 (fun c w => is_errno_below k c w) w
theorem code_lack (o : ByteArray) (k : Nat) (h1 : 1 ≤ k) (h25 : k ≤ 25) (w : World) :
    Calls Tryd.prog 15 #[lackOf o k] w fun e w' => e = .returned (.int .i64 k) ∧ Below w.heap.size w w' :=
  code_of (show lackOf o k = _ from rfl) k h1 h25 (fun c w => is_at _ k c w) w
end Go.Proofs.YtnpmkapapacffaaDoor
