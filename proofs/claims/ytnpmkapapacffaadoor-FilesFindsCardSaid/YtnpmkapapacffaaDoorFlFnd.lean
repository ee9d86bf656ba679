/-
  files.Find.
-/
import Derived.Test.YtnpmkapapacffaaDoorFlLoc
import Derived.Test.YtnpmkapapacffaaDoorFlClone
import Derived.Laws.ResultCell
namespace Go.Proofs.YtnpmkapapacffaaDoor
open Go.Shelf Go.RowKit Go.Lib Go.Sort Fm

set_option maxHeartbeats 4000000 in
set_option maxRecDepth 100000 in
theorem Find_none (A : Option Addr) (n cap : Nat) (ps : List Pk) (s t : ByteArray) (w : World) (hb : PksAt w w.heap.size A ps) (hl : Hid (ps.length = n)) (hs : Hid (Small ps)) (hf : find ps s t = none) :
    Calls Tryd.prog 20 #[.slice A n cap, .string s, .string t] w fun e w' => e = .returned (.tuple #[.agg #[.string ⟨#[]⟩, .slice none 0 0], errno 7]) ∧ Below w.heap.size w w' := by
  have BA : Hid (Below w.heap.size w (w.alloc (.cells #[.string ⟨#[]⟩, .slice none 0 0] 39))) := (Below.refl _ _).alloc (Nat.le_refl _) _
  have HL := Lib.hid (locate_run A n cap ps s t (w.alloc (.cells #[.string ⟨#[]⟩, .slice none 0 0] 39)) ((hb.below BA.out (Nat.le_refl _)).more BA.out.size) hl hs)
  have HI7 : Hid (∀ w, Calls Tryd.prog 33 #[errno 7, errno 7] w fun e w' => e = .returned (.bool true) ∧ Below w.heap.size w w') := fun w => is_errno_below 7 7 w
  rw [hf] at HL
  unfold locAns at HL
  unfold errno at *
  clear hb hf
  go_enter Tryd.func20, Tryd.ntmps20
  go_wp2_with fail
  refine HL.out.mono ?_
  rintro e w1 ⟨rfl, hw1⟩
  have d0 : w1.cell? ⟨w.heap.size, 0, none⟩ = some (.string ⟨#[]⟩) := (hw1.cell (p := ⟨w.heap.size, 0, none⟩) (by simp)).trans (by simp)
  have d1 : w1.cell? ⟨w.heap.size, 1, none⟩ = some (.slice none 0 0) := (hw1.cell (p := ⟨w.heap.size, 1, none⟩) (by simp)).trans (by simp)
  have f0 : w1.frozen? ⟨w.heap.size, 0, none⟩ = false := (hw1.frozen (p := ⟨w.heap.size, 0, none⟩) (by simp)).trans (by simp)
  have f1 : w1.frozen? ⟨w.heap.size, 1, none⟩ = false := (hw1.frozen (p := ⟨w.heap.size, 1, none⟩) (by simp)).trans (by simp)
  have B1 : Hid (Below w.heap.size w w1) := BA.out.trans (hw1.mono BA.out.size)
  have hw1' := Lib.hid hw1
  clear hw1
  go_wp2_with fail
  refine (HI7.out _).mono ?_
  rintro e w2 ⟨rfl, hw2⟩
  have hlt : w.heap.size < w1.heap.size := by have := hw1'.out.size; simp at this; omega
  have g0 : w2.cell? ⟨w.heap.size, 0, none⟩ = some (.string ⟨#[]⟩) := (hw2.cell (p := ⟨w.heap.size, 0, none⟩) hlt).trans d0
  have g1 : w2.cell? ⟨w.heap.size, 1, none⟩ = some (.slice none 0 0) := (hw2.cell (p := ⟨w.heap.size, 1, none⟩) hlt).trans d1
  have k0 : w2.frozen? ⟨w.heap.size, 0, none⟩ = false := (hw2.frozen (p := ⟨w.heap.size, 0, none⟩) hlt).trans f0
  have k1 : w2.frozen? ⟨w.heap.size, 1, none⟩ = false := (hw2.frozen (p := ⟨w.heap.size, 1, none⟩) hlt).trans f1
  have B2 : Hid (Below w.heap.size w w2) := B1.out.trans (hw2.mono B1.out.size)
  clear hw2 d0 d1 f0 f1
  go_wp2_with fail
  (try simp only [Exit.inBlock, Exit.then])
  refine bodyPost_ret (v := .tuple #[.agg #[.string ⟨#[]⟩, .slice none 0 0], .iface 57 (.int .i64 7)]) ?_ rfl ⟨rfl, ?_⟩
  · rw [results_cell_tmp rfl]
    have q0 : ((w2.setCell ⟨w.heap.size, 0, none⟩ (.string ⟨#[]⟩)).setCell ⟨w.heap.size, 1, none⟩ (.slice none 0 0)).cell? ⟨w.heap.size, 0, none⟩ = some (.string ⟨#[]⟩) := (World.cell?_setCell_other _ _ _ _ (by simp)).trans (World.cell?_setCell_same' _ _ _ (by rw [g0]; rfl))
    have q1 : ((w2.setCell ⟨w.heap.size, 0, none⟩ (.string ⟨#[]⟩)).setCell ⟨w.heap.size, 1, none⟩ (.slice none 0 0)).cell? ⟨w.heap.size, 1, none⟩ = some (.slice none 0 0) := World.cell?_setCell_same' _ _ _ (by rw [World.cell?_setCell_other _ _ _ _ (by simp), g1]; rfl)
    simp [asAddr, Result.andThen]
    go_simp
  · exact (B2.out.setCell (Nat.le_refl _) _).setCell (Nat.le_refl _) _
end Go.Proofs.YtnpmkapapacffaaDoor
