/-
  Stage 7: limb's Sub and Mul.
-/
import Derived.Test.YtbcnpajdmlbieaaDoorLmO
namespace Go.Proofs.YtbcnpajdmlbieaaDoor
open Go.RowKit Go.Sort

theorem resV_tuple (s : Bool) (n : Nat) : ∃ z r e, resV s n = .tuple #[intV z r, e] := by
  unfold resV
  split
  · exact ⟨_, _, _, rfl⟩
  · exact ⟨_, _, _, rfl⟩
set_option maxRecDepth 100000 in
set_option maxHeartbeats 8000000 in
theorem Sub_run (s : Bool) (n : Nat) (t : Bool) (m : Nat) (w : World) (hn : Hid (Fits n)) (hm : Hid (Fits m)) :
    Calls Tryd.prog 23 #[intV s n, intV t m] w fun e w' => e = .returned (resV (addS s n (sgn (!t) m) m) (addN s n (sgn (!t) m) m)) ∧ Below w.heap.size w w' := by
  obtain ⟨S, hS⟩ : ∃ S, w.heap.size = S := ⟨_, rfl⟩
  obtain ⟨W, hW⟩ : ∃ W, ((w.alloc (boxI s n 25)).alloc (boxI t m 25)).alloc (boxIZ 25) = W := ⟨_, rfl⟩
  have T := three_ints w s n t m 25 25 25
  rw [hW, hS] at T
  have HT := Lib.hid T
  obtain ⟨⟨a0, b0⟩, ⟨a1, b1⟩, ⟨a2, b2⟩, ⟨a3, b3⟩, ⟨a4, b4⟩, ⟨a5, b5⟩, ⟨a6, b6⟩, ⟨a7, b7⟩, ⟨a8, b8⟩⟩ := T.1.nine
  obtain ⟨⟨c0, d0⟩, ⟨c1, d1⟩, ⟨c2, d2⟩, ⟨c3, d3⟩, ⟨c4, d4⟩, ⟨c5, d5⟩, ⟨c6, d6⟩, ⟨c7, d7⟩, ⟨c8, d8⟩⟩ := T.2.1.nine
  rw [hS]
  have HC1 := Lib.hid (fun W => Neg_run t m W hm)
  obtain ⟨t', ht'⟩ : ∃ t', sgn (!t) m = t' := ⟨_, rfl⟩
  rw [ht'] at HC1 ⊢
  have HC2 := Lib.hid (fun W => Add_run s n t' m W hn hm)
  obtain ⟨z, r, er, hres⟩ := resV_tuple (addS s n t' m) (addN s n t' m)
  rw [hres] at HC2 ⊢
  have HK : Hid (∀ w2, Below W.drew.heap.size W.drew w2 → IntAt w2 S s n ∧ IntAt w2 (S + 1 + 1) false 0 ∧ Below S w w2 ∧ S + 1 + 1 + 1 ≤ w2.heap.size) := fun w2 hw2 => by
    have hz := T.2.2.2.2
    exact ⟨IntAt.keep (w := W.drew) T.1.drew hw2 (by show S < W.heap.size; omega), IntAt.keep (w := W.drew) T.2.2.1.drew hw2 (by show S + 1 + 1 < W.heap.size; omega), T.2.2.2.1.drew.trans (hw2.mono (by show S ≤ W.heap.size; omega)), by have := hw2.size; have h2 : W.drew.heap.size = W.heap.size := rfl; omega⟩
  clear T HT ht' hres hn hm
  unfold intV at HC1 HC2 ⊢
  go_enter Tryd.func23, Tryd.ntmps23
  go_wp2_with fail
  go_region_with (first | (go_at_call 33; refine (HC1.out _).mono ?_; rintro e w2 ⟨rfl, hw2⟩; obtain ⟨L1, L3, LB, lz⟩ := HK.out _ hw2; have HL3 := Lib.hid L3; have HLB := Lib.hid LB; obtain ⟨⟨e0, f0⟩, ⟨e1, f1⟩, ⟨e2, f2⟩, ⟨e3, f3⟩, ⟨e4, f4⟩, ⟨e5, f5⟩, ⟨e6, f6⟩, ⟨e7, f7⟩, ⟨e8, f8⟩⟩ := L1.nine; clear L1 L3 LB hw2) | (go_at_call 21; refine (HC2.out _).mono ?_; rintro e w3 ⟨rfl, hw3⟩; have M3 := Lib.hid (HL3.out.keep hw3 (by omega)); have MB := Lib.hid (HLB.out.trans (hw3.mono (by omega))); obtain ⟨⟨g0, h0⟩, ⟨g1, h1⟩, ⟨g2, h2⟩, ⟨g3, h3⟩, ⟨g4, h4⟩, ⟨g5, h5⟩, ⟨g6, h6⟩, ⟨g7, h7⟩, ⟨g8, h8⟩⟩ := M3.out.nine; clear hw3))
  all_goals go_wp2_with fail
  all_goals refine bodyPost_ret (v := .tuple #[intV z r, er]) (by rw [results_cell_tmp rfl]; go_simp; try rfl) rfl ⟨rfl, ?_⟩
  all_goals exact (st9_but w3 (S + 1 + 1) z r).2.1 S w (by omega) MB.out
end Go.Proofs.YtbcnpajdmlbieaaDoor
