/-
  The walk of the law FilesNames: it answers true, and leaves what was there as it was.
-/
import Derived.Test.YtnpmkapapacffaaDoorFlWorks
namespace Go.Proofs.YtnpmkapapacffaaDoor
open Go.Shelf Go.RowKit Go.Lib Go.Sort Fm

set_option maxRecDepth 100000 in
set_option maxHeartbeats 4000000 in
theorem filesNames_any (s : ByteArray) (W : World) (hs : s.size ≤ 9223372036854775807) (hg : ErrType W) :
    Calls Tryd.prog 3 #[.string s] W fun e w' => e = .returned (.bool true) ∧ Below W.heap.size W w' := by
  obtain ⟨m, hm⟩ : ∃ m : Nat, min (s.size : Int) 200 = (m : Int) := ⟨min s.size 200, by omega⟩
  obtain ⟨t, ht0⟩ : ∃ t, s.extract 0 m = t := ⟨_, rfl⟩
  have ht : Hid (t.size ≤ 200) := by show _ ≤ _; rw [← ht0, ByteArray.size_extract]; omega
  have hm1 : (m : Int) ≤ (s.size : Int) := by omega
  obtain ⟨b1, h1⟩ : ∃ b, nameOk true t.data.toList = b := ⟨_, rfl⟩
  obtain ⟨b2, h2⟩ : ∃ b, pathOk t.data.toList = b := ⟨_, rfl⟩
  have H1 := Lib.hid (Name_run t b1 (by have := ht.out; omega) h1)
  have H2 := Lib.hid (refName_run true t b1 (by have := ht.out; omega) h1)
  have H3 := Lib.hid (Path_run t b2 (by have := ht.out; omega) h2)
  have H4 := Lib.hid (refPath_run t b2 (by have := ht.out; omega) h2)
  have HG := Lib.hid hg
  have hgl := hg.lt
  clear h1 h2 hg
  go_enter Tryd.func3, Tryd.ntmps3
  go_wp2_with fail
  refine (H1.out _).mono ?_
  rintro e w1 ⟨rfl, rfl⟩
  go_wp2_with fail
  refine (H2.out _).mono ?_
  rintro e w1 ⟨rfl, rfl⟩
  go_wp2_with fail
  refine (H3.out _).mono ?_
  rintro e w1 ⟨rfl, hw1⟩
  have B1 := Lib.hid hw1
  clear hw1
  go_wp2_with fail
  refine (H4.out _).mono ?_
  rintro e w2 ⟨rfl, rfl⟩
  go_wp2_with fail
  refine (works_run _ (HG.out.below B1.out hgl)).mono ?_
  rintro e w3 ⟨rfl, hw3⟩
  go_wp2_with fail
  go_ret
  exact ⟨rfl, B1.out.trans (hw3.mono B1.out.size)⟩
end Go.Proofs.YtnpmkapapacffaaDoor
