/-
  Stage 7: limb's Div.
-/
import Derived.Test.YtbcnpajdmlbieaaDoorLmQ
namespace Go.Proofs.YtbcnpajdmlbieaaDoor
open Go.RowKit Go.Sort

theorem results_cell2_tmp {fn : Func} {p q u : Tmp} {ty tz : TypeId} (h : fn.results = #[.cell p ty, .cell q tz, .tmp u]) (tmps : Array Value) (P : Program) (w : World) :
    (results fn tmps).run P w = ((asAddr (tmps.getD p undef)).run P w).andThen fun a w₁ => ((loadVar ty a).run P w₁).andThen fun v w₂ => ((asAddr (tmps.getD q undef)).run P w₂).andThen fun b w₃ => ((loadVar tz b).run P w₃).andThen fun x w₄ => .ok (.tuple #[v, x, tmps.getD u undef]) w₄ := by
  simp only [results, h]
  simp [Sem.run_bind, Result.andThen]
theorem four_ints (w : World) (s : Bool) (n : Nat) (t : Bool) (m : Nat) (T U V X : TypeId) : IntAt ((((w.alloc (boxI s n T)).alloc (boxI t m U)).alloc (boxIZ V)).alloc (boxIZ X)) w.heap.size s n ∧ IntAt ((((w.alloc (boxI s n T)).alloc (boxI t m U)).alloc (boxIZ V)).alloc (boxIZ X)) (w.heap.size + 1) t m ∧ IntAt ((((w.alloc (boxI s n T)).alloc (boxI t m U)).alloc (boxIZ V)).alloc (boxIZ X)) (w.heap.size + 1 + 1) false 0 ∧ IntAt ((((w.alloc (boxI s n T)).alloc (boxI t m U)).alloc (boxIZ V)).alloc (boxIZ X)) (w.heap.size + 1 + 1 + 1) false 0 ∧ Below w.heap.size w ((((w.alloc (boxI s n T)).alloc (boxI t m U)).alloc (boxIZ V)).alloc (boxIZ X)) ∧ ((((w.alloc (boxI s n T)).alloc (boxI t m U)).alloc (boxIZ V)).alloc (boxIZ X)).heap.size = w.heap.size + 1 + 1 + 1 + 1 := by
  obtain ⟨h1, h2, h3, h4, h5⟩ := three_ints w s n t m T U V
  refine ⟨h1.alloc (by omega) _, h2.alloc (by omega) _, h3.alloc (by omega) _, ?_, h4.alloc (by omega) _, by simp⟩
  have := IntAt.zero (((w.alloc (boxI s n T)).alloc (boxI t m U)).alloc (boxIZ V)) X
  rwa [h5] at this
set_option maxRecDepth 100000 in
set_option maxHeartbeats 2000000 in
theorem Div_zero (s : Bool) (n : Nat) (t : Bool) (w : World) :
    Calls Tryd.prog 41 #[intV s n, intV t 0] w fun e w' => e = .returned (.tuple #[intV false 0, intV false 0, errno 10]) ∧ Below w.heap.size w w' := by
  obtain ⟨S, hS⟩ : ∃ S, w.heap.size = S := ⟨_, rfl⟩
  obtain ⟨W, hW⟩ : ∃ W, (((w.alloc (boxI s n 25)).alloc (boxI t 0 25)).alloc (boxIZ 25)).alloc (boxIZ 25) = W := ⟨_, rfl⟩
  have T := four_ints w s n t 0 25 25 25 25
  rw [hW, hS] at T
  have HT := Lib.hid T
  obtain ⟨⟨a0, b0⟩, ⟨a1, b1⟩, ⟨a2, b2⟩, ⟨a3, b3⟩, ⟨a4, b4⟩, ⟨a5, b5⟩, ⟨a6, b6⟩, ⟨a7, b7⟩, ⟨a8, b8⟩⟩ := T.2.1.nine
  obtain ⟨⟨c0, d0⟩, ⟨c1, d1⟩, ⟨c2, d2⟩, ⟨c3, d3⟩, ⟨c4, d4⟩, ⟨c5, d5⟩, ⟨c6, d6⟩, ⟨c7, d7⟩, ⟨c8, d8⟩⟩ := T.2.2.1.nine
  obtain ⟨⟨e0, f0⟩, ⟨e1, f1⟩, ⟨e2, f2⟩, ⟨e3, f3⟩, ⟨e4, f4⟩, ⟨e5, f5⟩, ⟨e6, f6⟩, ⟨e7, f7⟩, ⟨e8, f8⟩⟩ := T.2.2.2.1.nine
  clear T
  rw [hS]
  have heq := fun W => eqWords' 0 0 W (Nat.pow_pos (by decide)) (Nat.pow_pos (by decide))
  rw [decide_eq_true rfl] at heq
  simp only [wordsV, wd_zero, Int.natCast_zero] at heq
  unfold intV
  simp only [wd_zero, Int.natCast_zero] at hW a1 a2 a3 a4 a5 a6 a7 a8 c1 c2 c3 c4 c5 c6 c7 c8 e1 e2 e3 e4 e5 e6 e7 e8 ⊢
  go_enter Tryd.func41, Tryd.ntmps41
  go_wp2_with fail
  go_region
  go_wp2_with fail
  refine bodyPost_ret (v := .tuple #[intV false 0, intV false 0, errno 10]) (by rw [results_cell2_tmp rfl]; go_simp; simp [intV, wd_zero, errno]) rfl ⟨by simp only [intV, wd_zero, Int.natCast_zero], ?_⟩
  exact (((((Below.refl S w).alloc (Nat.le_of_eq hS.symm) _).alloc (by simp; omega) _).alloc (by simp; omega) _).alloc (by simp; omega) _).drew
end Go.Proofs.YtbcnpajdmlbieaaDoor
