/-
  Stage 7: limb's balance.
-/
import Derived.Test.YtbcnpajdmlbieaaDoorLmM
namespace Go.Proofs.YtbcnpajdmlbieaaDoor
open Go.RowKit Go.Sort

theorem three_ints (w : World) (s : Bool) (n : Nat) (t : Bool) (m : Nat) (T U V : TypeId) : IntAt (((w.alloc (boxI s n T)).alloc (boxI t m U)).alloc (boxIZ V)) w.heap.size s n ∧ IntAt (((w.alloc (boxI s n T)).alloc (boxI t m U)).alloc (boxIZ V)) (w.heap.size + 1) t m ∧ IntAt (((w.alloc (boxI s n T)).alloc (boxI t m U)).alloc (boxIZ V)) (w.heap.size + 1 + 1) false 0 ∧ Below w.heap.size w (((w.alloc (boxI s n T)).alloc (boxI t m U)).alloc (boxIZ V)) ∧ (((w.alloc (boxI s n T)).alloc (boxI t m U)).alloc (boxIZ V)).heap.size = w.heap.size + 1 + 1 + 1 := by
  obtain ⟨h1, h2, h3, h4⟩ := two_ints w s n t m T U
  refine ⟨h1.alloc (by omega) _, h2.alloc (by omega) _, ?_, h3.alloc (by omega) _, by simp⟩
  have := IntAt.zero ((w.alloc (boxI s n T)).alloc (boxI t m U)) V
  rwa [h4] at this
theorem IntAt.on {w w' : World} {b n : Nat} {s : Bool} (h : IntAt w b s n) (hb : Below w.heap.size w w') (hB : b < w.heap.size) : IntAt w' b s n := h.keep hb hB
set_option maxRecDepth 100000 in
set_option maxHeartbeats 8000000 in
/-- balance's last statement: what is left, with its sign, in the result's box. -/
theorem balance_run (s : Bool) (n : Nat) (t : Bool) (m : Nat) (w : World) (hn : Hid (Fits n)) (hm : Hid (Fits m)) :
    Calls Tryd.prog 34 #[intV s n, intV t m] w fun e w' => e = .returned (if n < m then intV (sgn t (m - n)) (m - n) else intV (sgn s (n - m)) (n - m)) ∧ Below w.heap.size w w' := by
  obtain ⟨S, hS⟩ : ∃ S, w.heap.size = S := ⟨_, rfl⟩
  obtain ⟨W, hW⟩ : ∃ W, ((w.alloc (boxI s n 25)).alloc (boxI t m 25)).alloc (boxIZ 25) = W := ⟨_, rfl⟩
  have T := three_ints w s n t m 25 25 25
  rw [hW, hS] at T
  obtain ⟨c, hc⟩ : ∃ c, cmpN n m = c := ⟨_, rfl⟩
  have HC := Lib.hid (fun W => compare_run n m c W hn hm hc)
  have HT := Lib.hid T
  obtain ⟨⟨a0, b0⟩, ⟨a1, b1⟩, ⟨a2, b2⟩, ⟨a3, b3⟩, ⟨a4, b4⟩, ⟨a5, b5⟩, ⟨a6, b6⟩, ⟨a7, b7⟩, ⟨a8, b8⟩⟩ := T.1.nine
  obtain ⟨⟨c0, d0⟩, ⟨c1, d1⟩, ⟨c2, d2⟩, ⟨c3, d3⟩, ⟨c4, d4⟩, ⟨c5, d5⟩, ⟨c6, d6⟩, ⟨c7, d7⟩, ⟨c8, d8⟩⟩ := T.2.1.nine
  clear T
  rw [hS]
  have hrow : ∃ x p y q, Hid ((if n < m then intV (sgn t (m - n)) (m - n) else intV (sgn s (n - m)) (n - m)) = intV (sgn x (p - q)) (p - q)) ∧ Hid (q ≤ p ∧ Fits p) ∧ ((c < 0 ∧ x = t ∧ p = m ∧ y = s ∧ q = n) ∨ (¬ c < 0 ∧ x = s ∧ p = n ∧ y = t ∧ q = m)) := by
    by_cases h : n < m
    · exact ⟨t, m, s, n, if_pos h, ⟨Nat.le_of_lt h, hm.out⟩, .inl ⟨by rw [← hc, cmpN_lt h]; decide, rfl, rfl, rfl, rfl⟩⟩
    · refine ⟨s, n, t, m, if_neg h, ⟨by omega, hn.out⟩, .inr ⟨?_, rfl, rfl, rfl, rfl⟩⟩
      rw [← hc]
      unfold cmpN
      rw [if_neg h]
      split <;> decide
  obtain ⟨x, p, y, q, HR, HPQ, hcase⟩ := hrow
  rw [HR.out]
  have HS1 := Lib.hid (fun W => subtract_run p q W HPQ.out.1)
  have hfit : Fits (p - q) := Nat.lt_of_le_of_lt (Nat.sub_le _ _) HPQ.out.2
  have HS2 := Lib.hid (fun W => signed_run x (p - q) W hfit)
  obtain ⟨r, hr⟩ : ∃ r, p - q = r := ⟨_, rfl⟩
  rw [hr] at HS1 HS2 ⊢
  obtain ⟨z, hz⟩ : ∃ z, sgn x r = z := ⟨_, rfl⟩
  rw [hz] at HS2 ⊢
  clear hr hz hfit HR HPQ hc hn hm
  unfold wordsV at HC HS1
  unfold wordsV intV at HS2
  unfold intV
  go_enter Tryd.func34, Tryd.ntmps34
  go_wp2_with fail
  refine (HC.out _).mono ?_
  rintro e w1 ⟨rfl, hw1⟩
  have k4 : ∀ x, x < S + 1 + 1 + 1 → x < W.heap.size := fun x hx => Nat.lt_of_lt_of_eq hx HT.out.2.2.2.2.symm
  have I1 := Lib.hid (HT.out.1.keep hw1 (k4 _ (by omega)))
  have I2 := Lib.hid (HT.out.2.1.keep hw1 (k4 _ (by omega)))
  have I3 := Lib.hid (HT.out.2.2.1.keep hw1 (k4 _ (by omega)))
  have B1 : Hid (Below S w w1) := HT.out.2.2.2.1.trans (hw1.mono (Nat.le_of_lt (k4 _ (by omega))))
  have z1 : S + 1 + 1 + 1 ≤ w1.heap.size := by have := hw1.size; rw [HT.out.2.2.2.2] at this; exact this
  clear hw1 k4 HT hW HC a0 a1 a2 a3 a4 a5 a6 a7 a8 b0 b1 b2 b3 b4 b5 b6 b7 b8 c0 c1 c2 c3 c4 c5 c6 c7 c8 d0 d1 d2 d3 d4 d5 d6 d7 d8
  obtain ⟨⟨a0, b0⟩, ⟨a1, b1⟩, ⟨a2, b2⟩, ⟨a3, b3⟩, ⟨a4, b4⟩, ⟨a5, b5⟩, ⟨a6, b6⟩, ⟨a7, b7⟩, ⟨a8, b8⟩⟩ := I1.out.nine
  obtain ⟨⟨c0, d0⟩, ⟨c1, d1⟩, ⟨c2, d2⟩, ⟨c3, d3⟩, ⟨c4, d4⟩, ⟨c5, d5⟩, ⟨c6, d6⟩, ⟨c7, d7⟩, ⟨c8, d8⟩⟩ := I2.out.nine
  obtain ⟨hneg, rfl, rfl, rfl, rfl⟩ | ⟨hneg, rfl, rfl, rfl, rfl⟩ := hcase
  · have hnz : decide (c < 0) = true := decide_eq_true hneg
    go_upto_region 3 with fail
    show Code.wp _ _ _ _ (st9 (st9 w1 S x p) (S + 1) y q)
    have J1 := Lib.hid ((st9_at (t := x) (m := p) I1.out).but (st9_but _ (S + 1) y q) (by omega))
    have J2 := Lib.hid (st9_at (t := y) (m := q) (I2.out.but (st9_but _ S x p) (by omega)))
    have J3 := Lib.hid ((I3.out.but (st9_but _ S x p) (by omega)).but (st9_but _ (S + 1) y q) (by omega))
    have BX := Lib.hid ((st9_but _ (S + 1) y q).2.1 S w (by omega) ((st9_but _ S x p).2.1 S w (by omega) B1.out))
    have zx : S + 1 + 1 + 1 ≤ (st9 (st9 w1 S x p) (S + 1) y q).heap.size := by rw [(st9_but _ (S + 1) y q).2.2, (st9_but _ S x p).2.2]; exact z1
    clear I1 I2 I3 B1 z1 a0 a1 a2 a3 a4 a5 a6 a7 a8 b0 b1 b2 b3 b4 b5 b6 b7 b8 c0 c1 c2 c3 c4 c5 c6 c7 c8 d0 d1 d2 d3 d4 d5 d6 d7 d8
    generalize st9 (st9 w1 S x p) (S + 1) y q = wx at *
    obtain ⟨⟨a0, b0⟩, ⟨a1, b1⟩, ⟨a2, b2⟩, ⟨a3, b3⟩, ⟨a4, b4⟩, ⟨a5, b5⟩, ⟨a6, b6⟩, ⟨a7, b7⟩, ⟨a8, b8⟩⟩ := J1.out.nine
    obtain ⟨⟨c0, d0⟩, ⟨c1, d1⟩, ⟨c2, d2⟩, ⟨c3, d3⟩, ⟨c4, d4⟩, ⟨c5, d5⟩, ⟨c6, d6⟩, ⟨c7, d7⟩, ⟨c8, d8⟩⟩ := J2.out.nine
    have HK : Hid (∀ w2, Below wx.drew.heap.size wx.drew w2 → IntAt w2 S x p ∧ IntAt w2 (S + 1) y q ∧ IntAt w2 (S + 1 + 1) false 0 ∧ Below S w w2 ∧ S + 1 + 1 + 1 ≤ w2.heap.size) := fun w2 hw2 =>
      ⟨IntAt.keep (w := wx.drew) J1.out.drew hw2 (by show S < wx.heap.size; omega), IntAt.keep (w := wx.drew) J2.out.drew hw2 (by show S + 1 < wx.heap.size; omega), IntAt.keep (w := wx.drew) J3.out.drew hw2 (by show S + 1 + 1 < wx.heap.size; omega), BX.out.drew.trans (hw2.mono (by show S ≤ wx.heap.size; omega)), by have := hw2.size; have h2 : wx.drew.heap.size = wx.heap.size := rfl; omega⟩
    go_region_with (first | (go_at_call 42; refine (HS1.out _).mono ?_; rintro e w2 ⟨rfl, hw2⟩; obtain ⟨L1, L2, L3, LB, lz⟩ := HK.out _ hw2; have HL1 := Lib.hid L1; have HL3 := Lib.hid L3; have HLB := Lib.hid LB; obtain ⟨⟨e0, f0⟩, ⟨e1, f1⟩, ⟨e2, f2⟩, ⟨e3, f3⟩, ⟨e4, f4⟩, ⟨e5, f5⟩, ⟨e6, f6⟩, ⟨e7, f7⟩, ⟨e8, f8⟩⟩ := L1.nine; clear L1 L2 L3 LB hw2) | (go_at_call 36; refine (HS2.out _).mono ?_; rintro e w3 ⟨rfl, hw3⟩; have M3 := Lib.hid (HL3.out.keep hw3 (by omega)); have MB := Lib.hid (HLB.out.trans (hw3.mono (by omega))); obtain ⟨⟨g0, h0⟩, ⟨g1, h1⟩, ⟨g2, h2⟩, ⟨g3, h3⟩, ⟨g4, h4⟩, ⟨g5, h5⟩, ⟨g6, h6⟩, ⟨g7, h7⟩, ⟨g8, h8⟩⟩ := M3.out.nine; clear hw3))
    all_goals go_wp2_with fail
    all_goals refine bodyPost_ret (v := intV z r) (by rw [results_cell1 rfl]; go_simp; try rfl) rfl ⟨rfl, ?_⟩
    all_goals exact (st9_but w3 (S + 1 + 1) z r).2.1 S w (by omega) MB.out
  · have hnz : decide (c < 0) = false := decide_eq_false (by omega)
    go_upto_region 3 with fail
    have J1 := I1
    have J2 := I2
    have J3 := I3
    have BX := B1
    have zx := z1
    clear I1 I2 I3 B1 z1
    generalize w1 = wx at *
    have HK : Hid (∀ w2, Below wx.drew.heap.size wx.drew w2 → IntAt w2 S x p ∧ IntAt w2 (S + 1) y q ∧ IntAt w2 (S + 1 + 1) false 0 ∧ Below S w w2 ∧ S + 1 + 1 + 1 ≤ w2.heap.size) := fun w2 hw2 =>
      ⟨IntAt.keep (w := wx.drew) J1.out.drew hw2 (by show S < wx.heap.size; omega), IntAt.keep (w := wx.drew) J2.out.drew hw2 (by show S + 1 < wx.heap.size; omega), IntAt.keep (w := wx.drew) J3.out.drew hw2 (by show S + 1 + 1 < wx.heap.size; omega), BX.out.drew.trans (hw2.mono (by show S ≤ wx.heap.size; omega)), by have := hw2.size; have h2 : wx.drew.heap.size = wx.heap.size := rfl; omega⟩
    go_region_with (first | (go_at_call 42; refine (HS1.out _).mono ?_; rintro e w2 ⟨rfl, hw2⟩; obtain ⟨L1, L2, L3, LB, lz⟩ := HK.out _ hw2; have HL1 := Lib.hid L1; have HL3 := Lib.hid L3; have HLB := Lib.hid LB; obtain ⟨⟨e0, f0⟩, ⟨e1, f1⟩, ⟨e2, f2⟩, ⟨e3, f3⟩, ⟨e4, f4⟩, ⟨e5, f5⟩, ⟨e6, f6⟩, ⟨e7, f7⟩, ⟨e8, f8⟩⟩ := L1.nine; clear L1 L2 L3 LB hw2) | (go_at_call 36; refine (HS2.out _).mono ?_; rintro e w3 ⟨rfl, hw3⟩; have M3 := Lib.hid (HL3.out.keep hw3 (by omega)); have MB := Lib.hid (HLB.out.trans (hw3.mono (by omega))); obtain ⟨⟨g0, h0⟩, ⟨g1, h1⟩, ⟨g2, h2⟩, ⟨g3, h3⟩, ⟨g4, h4⟩, ⟨g5, h5⟩, ⟨g6, h6⟩, ⟨g7, h7⟩, ⟨g8, h8⟩⟩ := M3.out.nine; clear hw3))
    all_goals go_wp2_with fail
    all_goals refine bodyPost_ret (v := intV z r) (by rw [results_cell1 rfl]; go_simp; try rfl) rfl ⟨rfl, ?_⟩
    all_goals exact (st9_but w3 (S + 1 + 1) z r).2.1 S w (by omega) MB.out
end Go.Proofs.YtbcnpajdmlbieaaDoor
