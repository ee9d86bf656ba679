/-
  files.about: an error about a name.
-/
import Derived.Test.YtnpmkapapacffaaDoorLkPlace
import Derived.Test.YtnpmkapapacffaaDoorFlMeetN
namespace Go.Proofs.YtnpmkapapacffaaDoor
open Go.RowKit Fm

theorem ErrType.lt {w : World} (h : ErrType w) : 0 < w.heap.size := by
  unfold ErrType at h
  rcases Nat.lt_or_ge 0 w.heap.size with h1 | h1
  · exact h1
  · simp [World.cell?, Array.getElem?_eq_none h1] at h
theorem ErrType.alloc {w : World} (h : ErrType w) (o : Obj) : ErrType (w.alloc o) := by
  unfold ErrType
  rw [World.cell?_alloc_lt _ _ ⟨0, 0, none⟩ h.lt]
  exact h
theorem ErrType.below {w w' : World} {B : Nat} (h : ErrType w) (hb : Below B w w') (hB : 0 < B) : ErrType w' := (hb.cell (p := ⟨0, 0, none⟩) hB).trans h
set_option maxHeartbeats 1000000 in
theorem about_nil (s : ByteArray) (w : World) : Calls Tryd.prog 31 #[.string s, .nilIface] w fun e w' => e = .returned .nilIface ∧ Below w.heap.size w w' := by
  go_enter Tryd.func31, Tryd.ntmps31
  go_wp2
  go_ret
  exact ⟨rfl, Below.refl _ _⟩
set_option maxHeartbeats 1000000 in
theorem about_errno (s : ByteArray) (k : Int) (w : World) (hg : ErrType w) : Calls Tryd.prog 31 #[.string s, errno k] w fun e w' => e = .returned (lackOf s k) ∧ Below w.heap.size w w' := by
  have hg1 := Lib.hid (hg.alloc (.cells #[.string ⟨#[]⟩, .nilIface] 64))
  clear hg
  unfold lackOf errno
  go_enter Tryd.func31, Tryd.ntmps31
  go_wp2_with (go_at_call 34; refine (as_miss k _ _ hg1.out).mono ?_; rintro e w1 ⟨rfl, hw1⟩)
  go_ret
  exact ⟨rfl, ((Below.refl _ _).alloc (Nat.le_refl _) _).trans (hw1.mono (by simp))⟩
set_option maxHeartbeats 2000000 in
theorem about_lack (s t : ByteArray) (k : Int) (w : World) (hg : ErrType w) : Calls Tryd.prog 31 #[.string s, lackOf t k] w fun e w' => e = .returned (lackOf t k) ∧ Below w.heap.size w w' := by
  have hg1 := Lib.hid (hg.alloc (.cells #[.string ⟨#[]⟩, .nilIface] 64))
  clear hg
  unfold lackOf errno
  go_enter Tryd.func31, Tryd.ntmps31
  go_wp2_with (go_at_call 34; refine (as_hit t k w.heap.size (.string ⟨#[]⟩) .nilIface _ hg1.out (by simp) (by simp) (by simp) (by simp)).mono ?_; rintro e w1 ⟨rfl, rfl⟩)
  go_ret
  refine ⟨rfl, ?_⟩
  go_light
  exact (((((Below.refl _ _).alloc (Nat.le_refl _) _).alloc (by simp) _).alloc (by simp; omega) _).alloc (by simp; omega) _).alloc (by simp; omega) _
set_option maxHeartbeats 1000000 in
theorem named_nil (w : World) : Calls Tryd.prog 16 #[.nilIface] w fun e w' => e = .returned (.string ⟨#[]⟩) ∧ Below w.heap.size w w' := by
  go_enter Tryd.func16, Tryd.ntmps16
  go_wp2
  go_ret
  exact ⟨rfl, (Below.refl _ _).alloc (Nat.le_refl _) _⟩
set_option maxHeartbeats 2000000 in
theorem named_lack (t : ByteArray) (k : Int) (w : World) (hg : ErrType w) : Calls Tryd.prog 16 #[lackOf t k] w fun e w' => e = .returned (.string t) ∧ Below w.heap.size w w' := by
  have hg1 := Lib.hid (hg.alloc (.cells #[.string ⟨#[]⟩, .nilIface] 64))
  clear hg
  unfold lackOf errno
  go_enter Tryd.func16, Tryd.ntmps16
  go_wp2_with (go_at_call 34; refine (as_hit t k w.heap.size (.string ⟨#[]⟩) .nilIface _ hg1.out (by simp) (by simp) (by simp) (by simp)).mono ?_; rintro e w1 ⟨rfl, rfl⟩)
  go_ret
  refine ⟨rfl, ?_⟩
  go_light
  exact (((((Below.refl _ _).alloc (Nat.le_refl _) _).alloc (by simp) _).alloc (by simp; omega) _).alloc (by simp; omega) _).alloc (by simp; omega) _
end Go.Proofs.YtnpmkapapacffaaDoor
