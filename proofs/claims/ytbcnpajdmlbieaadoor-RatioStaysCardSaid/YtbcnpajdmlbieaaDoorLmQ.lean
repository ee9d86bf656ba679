/-
  Stage 7: limb's Mul.
-/
import Derived.Test.YtbcnpajdmlbieaaDoorLmO
namespace Go.Proofs.YtbcnpajdmlbieaaDoor
open Go.RowKit Go.Sort

theorem mul_lt16 {n m : Nat} (hn : Fits n) (hm : Fits m) : Fits (n * m / 18446744073709551616 ^ 8) := by
  apply (Nat.div_lt_iff_lt_mul (Nat.pow_pos (by decide))).2
  exact Nat.mul_lt_mul'' hn hm
theorem two_more (w : World) (a b : Nat) (T U : TypeId) : WordsAt ((w.alloc (boxO a T)).alloc (boxO b U)) w.heap.size 0 a 8 ∧ WordsAt ((w.alloc (boxO a T)).alloc (boxO b U)) (w.heap.size + 1) 0 b 8 := ⟨(two_boxes w a b T U).1, (two_boxes w a b T U).2.1⟩
set_option maxRecDepth 100000 in
set_option maxHeartbeats 2000000 in
theorem Mul_run (s : Bool) (n : Nat) (t : Bool) (m : Nat) (w : World) (hn : Hid (Fits n)) (hm : Hid (Fits m)) :
    Calls Tryd.prog 22 #[intV s n, intV t m] w fun e w' => e = .returned (resV (s != t) (n * m)) ∧ Below w.heap.size w w' := by
  obtain ⟨S, hS⟩ : ∃ S, w.heap.size = S := ⟨_, rfl⟩
  obtain ⟨W, hW⟩ : ∃ W, ((w.alloc (boxI s n 25)).alloc (boxI t m 25)).alloc (boxIZ 25) = W := ⟨_, rfl⟩
  have T := three_ints w s n t m 25 25 25
  rw [hW, hS] at T
  have HT := Lib.hid T
  obtain ⟨⟨a0, b0⟩, ⟨a1, b1⟩, ⟨a2, b2⟩, ⟨a3, b3⟩, ⟨a4, b4⟩, ⟨a5, b5⟩, ⟨a6, b6⟩, ⟨a7, b7⟩, ⟨a8, b8⟩⟩ := T.1.nine
  obtain ⟨⟨c0, d0⟩, ⟨c1, d1⟩, ⟨c2, d2⟩, ⟨c3, d3⟩, ⟨c4, d4⟩, ⟨c5, d5⟩, ⟨c6, d6⟩, ⟨c7, d7⟩, ⟨c8, d8⟩⟩ := T.2.1.nine
  clear T
  rw [hS]
  have k4 : ∀ x, x < S + 1 + 1 + 1 → x < W.heap.size := fun x hx => Nat.lt_of_lt_of_eq hx HT.out.2.2.2.2.symm
  have HC := Lib.hid (fun W => multiply_run n m W hn hm)
  have hfit := mul_lt16 hn.out hm.out
  have hne := fun W => neWords (n * m / 18446744073709551616 ^ 8) 0 W hfit (Nat.pow_pos (by decide))
  obtain ⟨q, hq⟩ : ∃ q, n * m / 18446744073709551616 ^ 8 = q := ⟨_, rfl⟩
  obtain ⟨p, hp⟩ : ∃ p, n * m = p := ⟨_, rfl⟩
  obtain ⟨x, hx⟩ : ∃ x, (s != t) = x := ⟨_, rfl⟩
  have hx3 : (s == t) = (!x) := by rw [← hx]; cases s <;> cases t <;> rfl
  rw [hq] at HC hne
  rw [hp] at HC ⊢
  rw [hx]
  have HF : Hid (q = 0 ↔ Fits p) := by
    show _ ↔ _
    rw [← hq, hp]
    constructor
    · intro h
      rcases Nat.lt_or_ge p (18446744073709551616 ^ 8) with h1 | h1
      · exact h1
      · have := Nat.div_pos h1 (Nat.pow_pos (by decide)); omega
    · exact fun h => Nat.div_eq_of_lt h
  clear hq hp hfit hn hm
  simp only [wordsV, wd_zero, Int.natCast_zero] at hne
  by_cases hf : Fits p
  · have hq0 : decide (q = 0) = true := decide_eq_true (HF.out.2 hf)
    rw [hq0] at hne
    rw [resV_fits hf]
    have HS := Lib.hid (fun W => signed_run x p W hf)
    obtain ⟨z, hz⟩ : ∃ z, sgn x p = z := ⟨_, rfl⟩
    rw [hz] at HS ⊢
    clear hz hf hq0 HF
    unfold wordsV at HC
    unfold wordsV intV at HS
    unfold intV
    go_enter Tryd.func22, Tryd.ntmps22
    go_wp2_with fail
    refine (HC.out _).mono ?_
    rintro e w1 ⟨rfl, hw1⟩
    have I1 := Lib.hid (HT.out.1.keep hw1 (k4 _ (by omega)))
    have I2 := Lib.hid (HT.out.2.1.keep hw1 (k4 _ (by omega)))
    have I3 := Lib.hid (HT.out.2.2.1.keep hw1 (k4 _ (by omega)))
    have B1 : Hid (Below S w w1) := HT.out.2.2.2.1.trans (hw1.mono (Nat.le_of_lt (k4 _ (by omega))))
    have z1 : S + 1 + 1 + 1 ≤ w1.heap.size := by have := hw1.size; rw [HT.out.2.2.2.2] at this; exact this
    clear hw1 k4 HT hW HC a0 a1 a2 a3 a4 a5 a6 a7 a8 b0 b1 b2 b3 b4 b5 b6 b7 b8 c0 c1 c2 c3 c4 c5 c6 c7 c8 d0 d1 d2 d3 d4 d5 d6 d7 d8
    go_upto_region 2 with fail
    obtain ⟨R, hR⟩ : ∃ R, w1.heap.size = R := ⟨_, rfl⟩
    obtain ⟨wx, hwx⟩ : ∃ wx, (w1.alloc (boxO p 61)).alloc (boxO q 61) = wx := ⟨_, rfl⟩
    have hsz : ((w1.alloc (boxO p 61)).alloc (boxO q 61)).heap.size = R + 1 + 1 := by simp [hR]
    have hs1 : (w1.alloc (boxO p 61)).heap.size = R + 1 := by simp [hR]
    have P2 := (two_more w1 p q 61 61)
    have J1 := (I1.out.alloc (by omega) (boxO p 61)).alloc (Nat.lt_of_lt_of_eq (show S < R + 1 by omega) hs1.symm) (boxO q 61)
    have J2 := (I2.out.alloc (by omega) (boxO p 61)).alloc (Nat.lt_of_lt_of_eq (show S + 1 < R + 1 by omega) hs1.symm) (boxO q 61)
    have J3 := (I3.out.alloc (by omega) (boxO p 61)).alloc (Nat.lt_of_lt_of_eq (show S + 1 + 1 < R + 1 by omega) hs1.symm) (boxO q 61)
    have BX : Below S w ((w1.alloc (boxO p 61)).alloc (boxO q 61)) := (B1.out.alloc (by omega) _).alloc (Nat.le_trans (show S ≤ R + 1 by omega) (Nat.le_of_eq hs1.symm)) _
    rw [hwx] at hsz P2 J1 J2 J3 BX
    rw [hR] at P2 z1
    have hwx' : (w1.alloc (.cells #[.int .u64 (wd p 0 : Int), .int .u64 (wd p 1 : Int), .int .u64 (wd p 2 : Int), .int .u64 (wd p 3 : Int), .int .u64 (wd p 4 : Int), .int .u64 (wd p 5 : Int), .int .u64 (wd p 6 : Int), .int .u64 (wd p 7 : Int)] 61)).alloc (.cells #[.int .u64 (wd q 0 : Int), .int .u64 (wd q 1 : Int), .int .u64 (wd q 2 : Int), .int .u64 (wd q 3 : Int), .int .u64 (wd q 4 : Int), .int .u64 (wd q 5 : Int), .int .u64 (wd q 6 : Int), .int .u64 (wd q 7 : Int)] 61) = wx := hwx
    rw [hwx', hR]
    clear hwx hwx' I1 I2 I3 B1 hs1
    have HP2 := Lib.hid P2
    have HJ3 := Lib.hid J3
    have HBX := Lib.hid BX
    have Hsz := Lib.hid hsz
    have sa := J1.sign
    have sb := J2.sign
    obtain ⟨⟨a0, b0⟩, ⟨a1, b1⟩, ⟨a2, b2⟩, ⟨a3, b3⟩, ⟨a4, b4⟩, ⟨a5, b5⟩, ⟨a6, b6⟩, ⟨a7, b7⟩⟩ := P2.1.eight
    obtain ⟨⟨c0, d0⟩, ⟨c1, d1⟩, ⟨c2, d2⟩, ⟨c3, d3⟩, ⟨c4, d4⟩, ⟨c5, d5⟩, ⟨c6, d6⟩, ⟨c7, d7⟩⟩ := P2.2.eight
    clear P2 J1 J2 BX hsz hR
    clear J3
    go_wp2_with fail
    refine (HS.out _).mono ?_
    rintro e w2 ⟨rfl, hw2⟩
    have M3 := Lib.hid (HJ3.out.keep hw2 (by rw [Hsz.out]; omega))
    have MB : Hid (Below S w w2) := HBX.out.trans (hw2.mono (by rw [Hsz.out]; omega))
    obtain ⟨⟨g0, h0⟩, ⟨g1, h1⟩, ⟨g2, h2⟩, ⟨g3, h3⟩, ⟨g4, h4⟩, ⟨g5, h5⟩, ⟨g6, h6⟩, ⟨g7, h7⟩, ⟨g8, h8⟩⟩ := M3.out.nine
    clear hw2
    go_wp2_with fail
    refine bodyPost_ret (v := .tuple #[intV z p, .nilIface]) (by rw [results_cell_tmp rfl]; go_simp; try rfl) rfl ⟨rfl, ?_⟩
    exact (st9_but w2 (S + 1 + 1) z p).2.1 S w (by omega) MB.out
  · have hq0 : decide (q = 0) = false := decide_eq_false (fun h => hf (HF.out.1 h))
    rw [hq0] at hne
    rw [resV_over hf]
    clear hf hq0 HF
    unfold wordsV at HC
    unfold intV
    go_enter Tryd.func22, Tryd.ntmps22
    go_wp2_with fail
    refine (HC.out _).mono ?_
    rintro e w1 ⟨rfl, hw1⟩
    have I1 := Lib.hid (HT.out.1.keep hw1 (k4 _ (by omega)))
    have I2 := Lib.hid (HT.out.2.1.keep hw1 (k4 _ (by omega)))
    have I3 := Lib.hid (HT.out.2.2.1.keep hw1 (k4 _ (by omega)))
    have B1 : Hid (Below S w w1) := HT.out.2.2.2.1.trans (hw1.mono (Nat.le_of_lt (k4 _ (by omega))))
    have z1 : S + 1 + 1 + 1 ≤ w1.heap.size := by have := hw1.size; rw [HT.out.2.2.2.2] at this; exact this
    clear hw1 k4 HT hW HC a0 a1 a2 a3 a4 a5 a6 a7 a8 b0 b1 b2 b3 b4 b5 b6 b7 b8 c0 c1 c2 c3 c4 c5 c6 c7 c8 d0 d1 d2 d3 d4 d5 d6 d7 d8
    go_upto_region 2 with fail
    obtain ⟨R, hR⟩ : ∃ R, w1.heap.size = R := ⟨_, rfl⟩
    obtain ⟨wx, hwx⟩ : ∃ wx, (w1.alloc (boxO p 61)).alloc (boxO q 61) = wx := ⟨_, rfl⟩
    have hsz : ((w1.alloc (boxO p 61)).alloc (boxO q 61)).heap.size = R + 1 + 1 := by simp [hR]
    have hs1 : (w1.alloc (boxO p 61)).heap.size = R + 1 := by simp [hR]
    have P2 := (two_more w1 p q 61 61)
    have J1 := (I1.out.alloc (by omega) (boxO p 61)).alloc (Nat.lt_of_lt_of_eq (show S < R + 1 by omega) hs1.symm) (boxO q 61)
    have J2 := (I2.out.alloc (by omega) (boxO p 61)).alloc (Nat.lt_of_lt_of_eq (show S + 1 < R + 1 by omega) hs1.symm) (boxO q 61)
    have J3 := (I3.out.alloc (by omega) (boxO p 61)).alloc (Nat.lt_of_lt_of_eq (show S + 1 + 1 < R + 1 by omega) hs1.symm) (boxO q 61)
    have BX : Below S w ((w1.alloc (boxO p 61)).alloc (boxO q 61)) := (B1.out.alloc (by omega) _).alloc (Nat.le_trans (show S ≤ R + 1 by omega) (Nat.le_of_eq hs1.symm)) _
    rw [hwx] at hsz P2 J1 J2 J3 BX
    rw [hR] at P2 z1
    have hwx' : (w1.alloc (.cells #[.int .u64 (wd p 0 : Int), .int .u64 (wd p 1 : Int), .int .u64 (wd p 2 : Int), .int .u64 (wd p 3 : Int), .int .u64 (wd p 4 : Int), .int .u64 (wd p 5 : Int), .int .u64 (wd p 6 : Int), .int .u64 (wd p 7 : Int)] 61)).alloc (.cells #[.int .u64 (wd q 0 : Int), .int .u64 (wd q 1 : Int), .int .u64 (wd q 2 : Int), .int .u64 (wd q 3 : Int), .int .u64 (wd q 4 : Int), .int .u64 (wd q 5 : Int), .int .u64 (wd q 6 : Int), .int .u64 (wd q 7 : Int)] 61) = wx := hwx
    rw [hwx', hR]
    clear hwx hwx' I1 I2 I3 B1 hs1
    have HP2 := Lib.hid P2
    have HJ3 := Lib.hid J3
    have HBX := Lib.hid BX
    have Hsz := Lib.hid hsz
    have sa := J1.sign
    have sb := J2.sign
    obtain ⟨⟨a0, b0⟩, ⟨a1, b1⟩, ⟨a2, b2⟩, ⟨a3, b3⟩, ⟨a4, b4⟩, ⟨a5, b5⟩, ⟨a6, b6⟩, ⟨a7, b7⟩⟩ := P2.1.eight
    obtain ⟨⟨c0, d0⟩, ⟨c1, d1⟩, ⟨c2, d2⟩, ⟨c3, d3⟩, ⟨c4, d4⟩, ⟨c5, d5⟩, ⟨c6, d6⟩, ⟨c7, d7⟩⟩ := P2.2.eight
    clear P2 J1 J2 BX hsz hR
    obtain ⟨⟨g0, h0⟩, ⟨g1, h1⟩, ⟨g2, h2⟩, ⟨g3, h3⟩, ⟨g4, h4⟩, ⟨g5, h5⟩, ⟨g6, h6⟩, ⟨g7, h7⟩, ⟨g8, h8⟩⟩ := J3.nine
    clear J3
    go_wp2_with fail
    refine bodyPost_ret (v := .tuple #[intV false 0, errno 9]) (by rw [results_cell_tmp rfl]; go_simp; exact ⟨by simp only [intV, wd_zero, Int.natCast_zero], rfl⟩) rfl ⟨rfl, ?_⟩
    have := (st9_but wx (S + 1 + 1) false 0).2.1 S w (by omega) HBX.out
    unfold st9 at this
    simpa only [wd_zero, Int.natCast_zero] using this
end Go.Proofs.YtbcnpajdmlbieaaDoor
