/-
  strings.Index, Contains, Count and Split at a text of one byte. (genSplit after the library's walk of its dump of names.)
-/
import Derived.Test.YtnpmkapapacffaaDoorFlName
import Derived.Lib.Split
import Derived.Lib.SplitLaws
import Derived.Lib.IndexLaws
import Derived.Lib.Walk
import Derived.Laws.Strings3
import Derived.Deep.OwnRows
import Derived.Deep.LoopGhost
namespace Go.Proofs.YtnpmkapapacffaaDoor
open Go.Shelf Go.RowKit Go.Lib Go.Sort Fm

theorem index_one (c : UInt8) : ∀ l : List UInt8, Lib.index l [c] = Lib.indexByte l c
  | [] => rfl
  | b :: l => by
    rw [Lib.index, Lib.indexByte, index_one c l]
    have : ([c] : List UInt8).isPrefixOf (b :: l) = (b == c) := by
      simp [List.isPrefixOf]
      exact BEq.comm
    rw [this]
theorem indexB_one (s : ByteArray) (c : UInt8) : Lib.indexB s ⟨#[c]⟩ = Lib.indexByte s.data.toList c := by
  exact index_one c _
theorem runIxB (args : Array Value) (w : World) : (callFunc 88 args).run Tryd.prog w = ((Extern.BytealgIndexByte.indexByte args).run Tryd.prog w).andThen fun v w' => .ok (.value v) w' :=
  @run_callFunc_extern Tryd.prog 88 _ Extern.BytealgIndexByte.indexByte Tryd.func88 (by kernel_rfl) (by kernel_rfl) (by kernel_rfl) (by kernel_rfl) args w
theorem runCntB (args : Array Value) (w : World) : (callFunc 82 args).run Tryd.prog w = ((Extern.BytealgCount.count args).run Tryd.prog w).andThen fun v w' => .ok (.value v) w' :=
  @run_callFunc_extern Tryd.prog 82 _ Extern.BytealgCount.count Tryd.func82 (by kernel_rfl) (by kernel_rfl) (by kernel_rfl) (by kernel_rfl) args w
set_option maxHeartbeats 1000000 in
theorem indexByte_run (s : ByteArray) (c : UInt8) (w : World) : Calls Tryd.prog 76 #[.string s, .int .u8 (c.toNat : Int)] w fun e w' => e = .returned (.int .i64 (Lib.indexB s ⟨#[c]⟩)) ∧ w = w' := by
  have h := runIxB
  have h2 : ∀ w, (Extern.BytealgIndexByte.indexByte #[.string s, .int .u8 (c.toNat : Int)]).run Tryd.prog w = .ok (.int .i64 (Lib.indexB s ⟨#[c]⟩)) w := fun w => by
    rw [Lib.run_indexByteString, indexB_one]
    simp
  generalize (c.toNat : Int) = z at *
  go_enter Tryd.func76, Tryd.ntmps76
  go_wp2
  go_ret
  exact ⟨rfl, rfl⟩
set_option maxHeartbeats 1000000 in
theorem lindex_run (s : ByteArray) (c : UInt8) (w : World) : Calls Tryd.prog 67 #[.string s, .string ⟨#[c]⟩] w fun e w' => e = .returned (.int .i64 (Lib.indexB s ⟨#[c]⟩)) ∧ w = w' := by
  have hx : ∀ W, (Instr.index 9 (.string ⟨#[c]⟩) (.int .i64 0)).run Tryd.prog W = .ok (.int .u8 (c.toNat : Int)) W := index_str (s := ⟨#[c]⟩) (i := 0) (b := c) rfl
  have hl : (ByteArray.mk #[c]).size = 1 := rfl
  have HI := Lib.hid (indexByte_run s c)
  by_cases hs : s = ⟨#[c]⟩
  · have h0 : Lib.indexB s ⟨#[c]⟩ = 0 := by rw [hs, indexB_one]; simp [Lib.indexByte]
    rw [h0]
    subst hs
    have hbb : (ByteArray.toList ⟨#[c]⟩ == ByteArray.toList ⟨#[c]⟩) = true := by simp
    clear h0 HI
    generalize (c.toNat : Int) = z at *
    generalize ByteArray.mk #[c] = sep at *
    go_enter Tryd.func67, Tryd.ntmps67
    go_wp2
    go_ret
    exact ⟨rfl, rfl⟩
  · have hbb : (ByteArray.toList ⟨#[c]⟩ == s.toList) = false := by
      rw [Lib.toList_data, Lib.toList_data]
      apply beq_eq_false_iff_ne.2
      intro h
      exact hs (bytes_inj h).symm
    clear hs
    generalize Lib.indexB s ⟨#[c]⟩ = r at *
    generalize (c.toNat : Int) = z at *
    generalize ByteArray.mk #[c] = sep at *
    go_enter Tryd.func67, Tryd.ntmps67
    go_wp2_with (go_at_call 76; refine (HI.out _).mono ?_; rintro e w1 ⟨rfl, rfl⟩)
    go_ret
    exact ⟨rfl, rfl⟩
set_option maxHeartbeats 1000000 in
theorem index_run (s : ByteArray) (c : UInt8) (w : World) : Calls Tryd.prog 47 #[.string s, .string ⟨#[c]⟩] w fun e w' => e = .returned (.int .i64 (Lib.indexB s ⟨#[c]⟩)) ∧ w = w' := by
  have HI := Lib.hid (lindex_run s c)
  generalize Lib.indexB s ⟨#[c]⟩ = r at *
  generalize ByteArray.mk #[c] = sep at *
  go_enter Tryd.func47, Tryd.ntmps47
  go_wp2_with (go_at_call 67; refine (HI.out _).mono ?_; rintro e w1 ⟨rfl, rfl⟩)
  go_ret
  exact ⟨rfl, rfl⟩
set_option maxHeartbeats 1000000 in
theorem contains_run (s : ByteArray) (c : UInt8) (b : Bool) (hb : Hid (decide (0 ≤ Lib.indexB s ⟨#[c]⟩) = b)) (w : World) : Calls Tryd.prog 28 #[.string s, .string ⟨#[c]⟩] w fun e w' => e = .returned (.bool b) ∧ w = w' := by
  have HI := Lib.hid (index_run s c)
  generalize Lib.indexB s ⟨#[c]⟩ = r at *
  generalize ByteArray.mk #[c] = sep at *
  go_enter Tryd.func28, Tryd.ntmps28
  go_wp2_with (go_at_call 47; refine (HI.out _).mono ?_; rintro e w1 ⟨rfl, rfl⟩)
  go_ret
  exact ⟨ret_bool hb.out, rfl⟩
set_option maxHeartbeats 1000000 in
theorem count_run (s : ByteArray) (c : UInt8) (w : World) : Calls Tryd.prog 69 #[.string s, .string ⟨#[c]⟩] w fun e w' => e = .returned (.int .i64 (Lib.countB s ⟨#[c]⟩ : Nat)) ∧ w = w' := by
  have h := runCntB
  have hcb : Lib.countB s ⟨#[c]⟩ = Lib.countByte s.data.toList c := by
    exact Lib.count_one c _
  have h2 : ∀ w, (Extern.BytealgCount.count #[.string s, .int .u8 (c.toNat : Int)]).run Tryd.prog w = .ok (.int .i64 (Lib.countB s ⟨#[c]⟩ : Nat)) w := fun w => by
    rw [Lib.run_countString, hcb]
    simp
  clear hcb
  have hx : ∀ W, (Instr.index 9 (.string ⟨#[c]⟩) (.int .i64 0)).run Tryd.prog W = .ok (.int .u8 (c.toNat : Int)) W := index_str (s := ⟨#[c]⟩) (i := 0) (b := c) rfl
  have hl : (ByteArray.mk #[c]).size = 1 := rfl
  generalize Lib.countB s ⟨#[c]⟩ = r at *
  generalize (c.toNat : Int) = z at *
  generalize ByteArray.mk #[c] = sep at *
  go_enter Tryd.func69, Tryd.ntmps69
  go_wp2
  go_ret
  exact ⟨rfl, rfl⟩
end Go.Proofs.YtnpmkapapacffaaDoor
