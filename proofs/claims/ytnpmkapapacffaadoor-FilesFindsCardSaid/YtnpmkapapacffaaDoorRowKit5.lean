/-
  What the rows of stage 5 need: from the rows' conditions (the listed variables, a list of packages, a slice of bytes or int's, two strings) to what the walks are told.
-/
import Derived.Test.YtnpmkapapacffaaDoorRows
import Derived.Test.YtnpmkapapacffaaDoorFlAbout
import Derived.ProofKit
import Derived.LaidMore
import Derived.Lay
import Derived.OpenShut
import Derived.Stop.Joined
import Derived.ChangeOld
import Derived.Lib.LaidTab
import Derived.Deep.Slices
namespace Go.Proofs.YtnpmkapapacffaaDoor
open Go.ChangeShapes Go.WideShapes Go.ChangeAt Go.RowKit Go.Deep

theorem own : ownKnob Tryd.prog.godebug = none := by kernel_rfl
theorem laidOut : laidOutB Tryd.prog = true := by kernel_rfl
/-- The variables that the rows list, and their names. -/
def laid5 : List (String × DataW Unit) := Rows.filesNamesRow.laid
def nErr : String := Rows.filesNamesRow.named.getD 3 ""
theorem gErr : Tryd.prog.globalNamed nErr = some 0 := by kernel_rfl
theorem oneErr : ((List.range Tryd.prog.types.size).filter fun t => Tryd.prog.rowNamed t [101, 114, 114, 111, 114]) = [28] := by kernel_rfl
/-- The plain data among them, laid by a function (a pinned table is one of them); the handle lies in the door's own heap. -/
def data5 : List (String × DataW Unit) := laid5.filter fun x => x.2.handleName?.isNone
def great5 : List String := data5.map fun x => x.1
noncomputable def door5 (os : Os) : World := (World.doorLaid Tryd.prog 26 os).layVars Tryd.prog (data5.filter fun x => great5.contains x.1)
theorem door5_os (os : Os) : (door5 os).os = os := World.layVars_os _ _ _
theorem none5 : (data5.filter fun x => !great5.contains x.1) = [] := by kernel_rfl
theorem data_met5 (os : Os) : laidMet Tryd.prog data5 (door5 os) :=
  laidMet_layVars (w0 := World.doorLaid Tryd.prog 26 os) (w' := door5 os) (laid := data5) great5 [] (by unfold door5; rfl) (by kernel_rfl) (by kernel_rfl) (by rw [none5]; exact LaidIn.none)
theorem all_met5 (os : Os) : laidMetH Tryd.prog laid5 (door5 os) :=
  laidMetH_of_parts3 (fuel := 8) (data_met5 os) (by kernel_rfl) (by kernel_rfl)
theorem door_met5 (os : Os) (args : Array Value) : laidMetH Tryd.prog laid5 ((door5 os).forCall (fun _ _ => 0) ⟨#[], args, []⟩).memory :=
  (all_met5 os).of_heap (by simp [World.memory, World.forCall, Input.heap])
theorem of_laid5 {W : World} (h : laidMetH Tryd.prog laid5 W) : ErrType W := by
  have h' : laidMet Tryd.prog _ W ∧ handlesMet Tryd.prog [(nErr, Rows.laid_errors_errorType)] W := h
  obtain ⟨name, u, ty, e1, e2, e3, e4, e5⟩ := h'.2 _ (List.mem_singleton.2 rfl)
  have en : name = [101, 114, 114, 111, 114] := (Option.some.inj e1).symm
  subst en
  have eu : some u = some 111 := e2.symm.trans (by kernel_rfl)
  obtain rfl := Option.some.inj eu
  have hm : ty ∈ (List.range Tryd.prog.types.size).filter fun t => Tryd.prog.rowNamed t [101, 114, 114, 111, 114] := List.mem_filter.2 ⟨List.mem_range.2 e3, e4⟩
  rw [oneErr] at hm
  obtain rfl := List.mem_singleton.1 hm
  have hh : typeHandle Tryd.prog 28 = .pointer (some ⟨4, 28, none⟩) := by kernel_rfl
  rw [hh] at e5
  unfold ErrType
  simpa using World.var?_cell gErr e5 0
theorem str_bound {s : ByteArray} (h : s.size ≤ maxLen) : s.size ≤ 9223372036854775807 := by unfold maxLen at h; exact h
end Go.Proofs.YtnpmkapapacffaaDoor
