/-
  Stage 7: limb's Cmp.
-/
import Derived.Test.YtgoemhcngmpfbaaGreatDoorMx06
import Derived.Deep.RegionHeld3
namespace Go.Proofs.YtgoemhcngmpfbaaGreatDoor
open Go.RowKit Go.Sort
theorem IntAt.nine {w : World} {b n : Nat} {s : Bool} (h : IntAt w b s n) :
  (w.cell? ⟨b, 0, none⟩ = some (.bool s) ∧ w.frozen? ⟨b, 0, none⟩ = false) ∧ (w.cell? ⟨b, 1, none⟩ = some (.int .u64 (wd n 0 : Int)) ∧ w.frozen? ⟨b, 1, none⟩ = false) ∧ (w.cell? ⟨b, 2, none⟩ = some (.int .u64 (wd n 1 : Int)) ∧ w.frozen? ⟨b, 2, none⟩ = false) ∧
  (w.cell? ⟨b, 3, none⟩ = some (.int .u64 (wd n 2 : Int)) ∧ w.frozen? ⟨b, 3, none⟩ = false) ∧ (w.cell? ⟨b, 4, none⟩ = some (.int .u64 (wd n 3 : Int)) ∧ w.frozen? ⟨b, 4, none⟩ = false) ∧
  (w.cell? ⟨b, 5, none⟩ = some (.int .u64 (wd n 4 : Int)) ∧ w.frozen? ⟨b, 5, none⟩ = false) ∧ (w.cell? ⟨b, 6, none⟩ = some (.int .u64 (wd n 5 : Int)) ∧ w.frozen? ⟨b, 6, none⟩ = false) ∧
  (w.cell? ⟨b, 7, none⟩ = some (.int .u64 (wd n 6 : Int)) ∧ w.frozen? ⟨b, 7, none⟩ = false) ∧ (w.cell? ⟨b, 8, none⟩ = some (.int .u64 (wd n 7 : Int)) ∧ w.frozen? ⟨b, 8, none⟩ = false) :=
 ⟨⟨h.sign, h.free⟩, h.words.eightAt1⟩
theorem IntAt.drew {w : World} {b n : Nat} {s : Bool} (h : IntAt w b s n) : IntAt w.drew b s n := ⟨h.sign, h.free, h.words⟩
theorem two_ints (w : World) (s : Bool) (n : Nat) (t : Bool) (m : Nat) (T U : TypeId) : IntAt ((w.alloc (boxI s n T)).alloc (boxI t m U)) w.heap.size s n ∧ IntAt ((w.alloc (boxI s n T)).alloc (boxI t m U)) (w.heap.size + 1) t m ∧ Below w.heap.size w ((w.alloc (boxI s n T)).alloc (boxI t m U)) ∧ ((w.alloc (boxI s n T)).alloc (boxI t m U)).heap.size = w.heap.size + 1 + 1 := by
 refine ⟨(IntAt.new w s n T).alloc (by simp) _, ?_, (below_alloc w _).alloc (by simp) _, by simp⟩
 have := IntAt.new (w.alloc (boxI s n T)) t m U
 simpa using this
def cmpS (s : Bool) (n : Nat) (t : Bool) (m : Nat) : Int := if sgn s n then (if sgn t m then cmpN m n else -1) else (if sgn t m then 1 else cmpN n m)
set_option maxRecDepth 100000 in
set_option maxHeartbeats 8000000 in
theorem Cmp_run (s : Bool) (n : Nat) (t : Bool) (m : Nat) (c : Int) (w : World) (hn : Hid (Fits n)) (hm : Hid (Fits m)) (hc : Hid (cmpS s n t m = c)) :
  Calls Tryz.prog 34 #[intV s n, intV t m] w fun e w' => e = .returned (.int .i64 c) ∧ Below w.heap.size w w' := by
 have HC1 := Lib.hid (fun W => Canon_run s n W hn)
 have HC2 := Lib.hid (fun W => Canon_run t m W hm)
 obtain ⟨S, hS⟩ : ∃ S, w.heap.size = S := ⟨_, rfl⟩
 obtain ⟨W, hW⟩ : ∃ W, (w.alloc (boxI s n 25)).alloc (boxI t m 25) = W := ⟨_, rfl⟩
 have T := two_ints w s n t m 25 25
 rw [hW, hS] at T
 obtain ⟨s', hs'⟩ : ∃ s', sgn s n = s' := ⟨_, rfl⟩
 obtain ⟨t', ht'⟩ : ∃ t', sgn t m = t' := ⟨_, rfl⟩
 rw [hs'] at HC1
 rw [ht'] at HC2
 have HV : Hid (c = if s' then (if t' then cmpN m n else -1) else (if t' then 1 else cmpN n m)) := by show _ = _; rw [← hc.out, cmpS, hs', ht']
 have HK1 : Hid (∀ w1, Below W.drew.heap.size W.drew w1 → IntAt w1 S s n ∧ IntAt w1 (S + 1) t m ∧ Below S w w1 ∧ S + 1 + 1 ≤ w1.heap.size) := fun w1 hw1 =>
  ⟨IntAt.keep (w := W.drew) T.1.drew hw1 (by show S < W.heap.size; omega), IntAt.keep (w := W.drew) T.2.1.drew hw1 (by show S + 1 < W.heap.size; omega), T.2.2.1.drew.trans (hw1.mono (by show S ≤ W.heap.size; omega)), by have := hw1.size; have h2 : W.drew.heap.size = W.heap.size := rfl; omega⟩
 obtain ⟨⟨a0, b0⟩, ⟨a1, b1⟩, ⟨a2, b2⟩, ⟨a3, b3⟩, ⟨a4, b4⟩, ⟨a5, b5⟩, ⟨a6, b6⟩, ⟨a7, b7⟩, ⟨a8, b8⟩⟩ := T.1.nine
 obtain ⟨⟨c0, d0⟩, ⟨c1, d1⟩, ⟨c2, d2⟩, ⟨c3, d3⟩, ⟨c4, d4⟩, ⟨c5, d5⟩, ⟨c6, d6⟩, ⟨c7, d7⟩, ⟨c8, d8⟩⟩ := T.2.1.nine
 clear T hs' ht'
 rw [hS]
 unfold intV at HC1 HC2 ⊢
 go_enter Tryz.func34, Tryz.ntmps34
 go_upto_region 1 with fail
 go_cut [] (fun wx => IntAt wx S s' n ∧ IntAt wx (S + 1) t' m ∧ Below S w wx)
 case first =>
  go_region_with (go_at_call 51; first | (refine (HC1.out _).mono ?_; rintro e w1 ⟨rfl, hw1⟩; obtain ⟨I1, I2, B1, z1⟩ := HK1.out _ hw1; have HI1 := Lib.hid I1; have HI2 := Lib.hid I2; have HB1 := Lib.hid B1; obtain ⟨⟨e0, f0⟩, ⟨e1, f1⟩, ⟨e2, f2⟩, ⟨e3, f3⟩, ⟨e4, f4⟩, ⟨e5, f5⟩, ⟨e6, f6⟩, ⟨e7, f7⟩, ⟨e8, f8⟩⟩ := I2.nine; clear I1 I2 B1 hw1) | (refine (HC2.out _).mono ?_; rintro e w2 ⟨rfl, hw2⟩; have J1 := Lib.hid (HI1.out.keep hw2 (by omega)); have J2 := Lib.hid (HI2.out.keep hw2 (by omega)); have BB := Lib.hid (HB1.out.trans (hw2.mono (by omega))); obtain ⟨⟨g0, h0⟩, ⟨g1, h1⟩, ⟨g2, h2⟩, ⟨g3, h3⟩, ⟨g4, h4⟩, ⟨g5, h5⟩, ⟨g6, h6⟩, ⟨g7, h7⟩, ⟨g8, h8⟩⟩ := J1.out.nine; obtain ⟨⟨i0, j0⟩, ⟨i1, j1⟩, ⟨i2, j2⟩, ⟨i3, j3⟩, ⟨i4, j4⟩, ⟨i5, j5⟩, ⟨i6, j6⟩, ⟨i7, j7⟩, ⟨i8, j8⟩⟩ := J2.out.nine; clear hw2))
  all_goals go_wp2_with fail
  all_goals go_meet
  all_goals exact ⟨(st9_at J1.out).but (st9_but _ (S + 1) t' m) (by omega), st9_at (J2.out.but (st9_but _ S s' n) (by omega)), (st9_but _ (S + 1) t' m).2.1 S w (by omega) ((st9_but _ S s' n).2.1 S w (by omega) BB.out)⟩
 case rest =>
  obtain ⟨K1, K2, KB⟩ := hcut
  have HKB := Lib.hid KB
  obtain ⟨⟨g0, h0⟩, ⟨g1, h1⟩, ⟨g2, h2⟩, ⟨g3, h3⟩, ⟨g4, h4⟩, ⟨g5, h5⟩, ⟨g6, h6⟩, ⟨g7, h7⟩, ⟨g8, h8⟩⟩ := K1.nine
  obtain ⟨⟨i0, j0⟩, ⟨i1, j1⟩, ⟨i2, j2⟩, ⟨i3, j3⟩, ⟨i4, j4⟩, ⟨i5, j5⟩, ⟨i6, j6⟩, ⟨i7, j7⟩, ⟨i8, j8⟩⟩ := K2.nine
  have HP1 : Hid (∀ W, Calls Tryz.prog 74 #[wordsV n, wordsV m] W fun e w' => e = .returned (.int .i64 (cmpN n m)) ∧ Below W.heap.size W w') := fun W => compare_run n m _ W hn hm rfl
  have HP2 : Hid (∀ W, Calls Tryz.prog 74 #[wordsV m, wordsV n] W fun e w' => e = .returned (.int .i64 (cmpN m n)) ∧ Below W.heap.size W w') := fun W => compare_run m n _ W hm hn rfl
  have hz : S ≤ wc.heap.size := by have := KB.size; omega
  unfold wordsV at HP1 HP2
  clear KB K1 K2 HK1 HC1 HC2 hW a0 a1 a2 a3 a4 a5 a6 a7 a8 b0 b1 b2 b3 b4 b5 b6 b7 b8 c0 c1 c2 c3 c4 c5 c6 c7 c8 d0 d1 d2 d3 d4 d5 d6 d7 d8
  cases s' with
  | true =>
   cases t' with
   | true =>
    go_wp2_with fail
    refine (HP2.out _).mono ?_
    rintro e w1 ⟨rfl, hw1⟩
    have HB1 : Hid (Below S w w1) := HKB.out.trans (hw1.mono hz)
    clear hw1
    go_wp2_with fail
    go_ret
    exact ⟨ret_int HV.out.symm, HB1.out⟩
   | false =>
    go_wp2_with fail
    go_ret
    exact ⟨ret_int HV.out.symm, HKB.out⟩
  | false =>
   cases t' with
   | true =>
    go_wp2_with fail
    go_ret
    exact ⟨ret_int HV.out.symm, HKB.out⟩
   | false =>
    go_wp2_with fail
    refine (HP1.out _).mono ?_
    rintro e w1 ⟨rfl, hw1⟩
    have HB1 : Hid (Below S w w1) := HKB.out.trans (hw1.mono hz)
    clear hw1
    go_wp2_with fail
    go_ret
    exact ⟨ret_int HV.out.symm, HB1.out⟩
end Go.Proofs.YtgoemhcngmpfbaaGreatDoor
namespace Go.Proofs.YtgoemhcngmpfbaaGreatDoor
open Go.RowKit Go.Sort
theorem three_ints (w : World) (s : Bool) (n : Nat) (t : Bool) (m : Nat) (T U V : TypeId) : IntAt (((w.alloc (boxI s n T)).alloc (boxI t m U)).alloc (boxIZ V)) w.heap.size s n ∧ IntAt (((w.alloc (boxI s n T)).alloc (boxI t m U)).alloc (boxIZ V)) (w.heap.size + 1) t m ∧ IntAt (((w.alloc (boxI s n T)).alloc (boxI t m U)).alloc (boxIZ V)) (w.heap.size + 1 + 1) false 0 ∧ Below w.heap.size w (((w.alloc (boxI s n T)).alloc (boxI t m U)).alloc (boxIZ V)) ∧ (((w.alloc (boxI s n T)).alloc (boxI t m U)).alloc (boxIZ V)).heap.size = w.heap.size + 1 + 1 + 1 := by
 obtain ⟨h1, h2, h3, h4⟩ := two_ints w s n t m T U
 refine ⟨h1.alloc (by omega) _, h2.alloc (by omega) _, ?_, h3.alloc (by omega) _, by simp⟩
 have := IntAt.zero ((w.alloc (boxI s n T)).alloc (boxI t m U)) V
 rwa [h4] at this
end Go.Proofs.YtgoemhcngmpfbaaGreatDoor
namespace Go.Proofs.YtgoemhcngmpfbaaGreatDoor
open Go.RowKit Go.Sort
def resV (s : Bool) (n : Nat) : Value := if n < 18446744073709551616 ^ 8 then .tuple #[intV (sgn s n) n, .nilIface] else .tuple #[intV false 0, errno 9]
theorem resV_fits {s : Bool} {n : Nat} (h : Fits n) : resV s n = .tuple #[intV (sgn s n) n, .nilIface] := if_pos h
theorem resV_over {s : Bool} {n : Nat} (h : ¬ Fits n) : resV s n = .tuple #[intV false 0, errno 9] := if_neg h
def addS (s : Bool) (n : Nat) (t : Bool) (m : Nat) : Bool := if s = t then s else if n < m then t else s
def addN (s : Bool) (n : Nat) (t : Bool) (m : Nat) : Nat := if s = t then n + m else if n < m then m - n else n - m
end Go.Proofs.YtgoemhcngmpfbaaGreatDoor
namespace Go.Proofs.YtgoemhcngmpfbaaGreatDoor
open Go.RowKit Go.Sort
theorem mul_lt16 {n m : Nat} (hn : Fits n) (hm : Fits m) : Fits (n * m / 18446744073709551616 ^ 8) := by
 apply (Nat.div_lt_iff_lt_mul (Nat.pow_pos (by decide))).2
 exact Nat.mul_lt_mul'' hn hm
theorem two_more (w : World) (a b : Nat) (T U : TypeId) : WordsAt ((w.alloc (boxO a T)).alloc (boxO b U)) w.heap.size 0 a 8 ∧ WordsAt ((w.alloc (boxO a T)).alloc (boxO b U)) (w.heap.size + 1) 0 b 8 := ⟨(two_boxes w a b T U).1, (two_boxes w a b T U).2.1⟩
set_option maxRecDepth 100000 in
set_option maxHeartbeats 2000000 in
theorem Mul_run (s : Bool) (n : Nat) (t : Bool) (m : Nat) (w : World) (hn : Hid (Fits n)) (hm : Hid (Fits m)) :
  Calls Tryz.prog 93 #[intV s n, intV t m] w fun e w' => e = .returned (resV (s != t) (n * m)) ∧ Below w.heap.size w w' := by
 obtain ⟨S, hS⟩ : ∃ S, w.heap.size = S := ⟨_, rfl⟩
 obtain ⟨W, hW⟩ : ∃ W, ((w.alloc (boxI s n 25)).alloc (boxI t m 25)).alloc (boxIZ 25) = W := ⟨_, rfl⟩
 have T := three_ints w s n t m 25 25 25
 rw [hW, hS] at T
 have HT := Lib.hid T
 obtain ⟨⟨a0, b0⟩, ⟨a1, b1⟩, ⟨a2, b2⟩, ⟨a3, b3⟩, ⟨a4, b4⟩, ⟨a5, b5⟩, ⟨a6, b6⟩, ⟨a7, b7⟩, ⟨a8, b8⟩⟩ := T.1.nine
 obtain ⟨⟨c0, d0⟩, ⟨c1, d1⟩, ⟨c2, d2⟩, ⟨c3, d3⟩, ⟨c4, d4⟩, ⟨c5, d5⟩, ⟨c6, d6⟩, ⟨c7, d7⟩, ⟨c8, d8⟩⟩ := T.2.1.nine
 clear T
 rw [hS]
 have k4 : ∀ x, x < S + 1 + 1 + 1 → x < W.heap.size := fun x hx => Nat.lt_of_lt_of_eq hx HT.out.2.2.2.2.symm
 have HC := Lib.hid (fun W => multiply_run n m W hn hm)
 have hfit := mul_lt16 hn.out hm.out
 have hne := fun W => neWords (n * m / 18446744073709551616 ^ 8) 0 W hfit (Nat.pow_pos (by decide))
 obtain ⟨q, hq⟩ : ∃ q, n * m / 18446744073709551616 ^ 8 = q := ⟨_, rfl⟩
 obtain ⟨p, hp⟩ : ∃ p, n * m = p := ⟨_, rfl⟩
 obtain ⟨x, hx⟩ : ∃ x, (s != t) = x := ⟨_, rfl⟩
 have hx3 : (s == t) = (!x) := by rw [← hx]; cases s <;> cases t <;> rfl
 rw [hq] at HC hne
 rw [hp] at HC ⊢
 rw [hx]
 have HF : Hid (q = 0 ↔ Fits p) := by
  show _ ↔ _
  rw [← hq, hp]
  constructor
  ·intro h
   rcases Nat.lt_or_ge p (18446744073709551616 ^ 8) with h1 | h1
   ·exact h1
   ·have := Nat.div_pos h1 (Nat.pow_pos (by decide)); omega
  ·exact fun h => Nat.div_eq_of_lt h
 clear hq hp hfit hn hm
 simp only [wordsV, wd_zero, Int.natCast_zero] at hne
 by_cases hf : Fits p
 ·have hq0 : decide (q = 0) = true := decide_eq_true (HF.out.2 hf)
  rw [hq0] at hne
  rw [resV_fits hf]
  have HS := Lib.hid (fun W => signed_run x p W hf)
  obtain ⟨z, hz⟩ : ∃ z, sgn x p = z := ⟨_, rfl⟩
  rw [hz] at HS ⊢
  clear hz hf hq0 HF
  unfold wordsV at HC
  unfold wordsV intV at HS
  unfold intV
  go_enter Tryz.func93, Tryz.ntmps93
  go_wp2_with fail
  refine (HC.out _).mono ?_
  rintro e w1 ⟨rfl, hw1⟩
  have I1 := Lib.hid (HT.out.1.keep hw1 (k4 _ (by omega)))
  have I2 := Lib.hid (HT.out.2.1.keep hw1 (k4 _ (by omega)))
  have I3 := Lib.hid (HT.out.2.2.1.keep hw1 (k4 _ (by omega)))
  have B1 : Hid (Below S w w1) := HT.out.2.2.2.1.trans (hw1.mono (Nat.le_of_lt (k4 _ (by omega))))
  have z1 : S + 1 + 1 + 1 ≤ w1.heap.size := by have := hw1.size; rw [HT.out.2.2.2.2] at this; exact this
  clear hw1 k4 HT hW HC a0 a1 a2 a3 a4 a5 a6 a7 a8 b0 b1 b2 b3 b4 b5 b6 b7 b8 c0 c1 c2 c3 c4 c5 c6 c7 c8 d0 d1 d2 d3 d4 d5 d6 d7 d8
  go_upto_region 2 with fail
  obtain ⟨R, hR⟩ : ∃ R, w1.heap.size = R := ⟨_, rfl⟩
  obtain ⟨wx, hwx⟩ : ∃ wx, (w1.alloc (boxO p 119)).alloc (boxO q 119) = wx := ⟨_, rfl⟩
  have hsz : ((w1.alloc (boxO p 119)).alloc (boxO q 119)).heap.size = R + 1 + 1 := by simp [hR]
  have hs1 : (w1.alloc (boxO p 119)).heap.size = R + 1 := by simp [hR]
  have P2 := (two_more w1 p q 119 119)
  have J1 := (I1.out.alloc (by omega) (boxO p 119)).alloc (Nat.lt_of_lt_of_eq (show S < R + 1 by omega) hs1.symm) (boxO q 119)
  have J2 := (I2.out.alloc (by omega) (boxO p 119)).alloc (Nat.lt_of_lt_of_eq (show S + 1 < R + 1 by omega) hs1.symm) (boxO q 119)
  have J3 := (I3.out.alloc (by omega) (boxO p 119)).alloc (Nat.lt_of_lt_of_eq (show S + 1 + 1 < R + 1 by omega) hs1.symm) (boxO q 119)
  have BX : Below S w ((w1.alloc (boxO p 119)).alloc (boxO q 119)) := (B1.out.alloc (by omega) _).alloc (Nat.le_trans (show S ≤ R + 1 by omega) (Nat.le_of_eq hs1.symm)) _
  rw [hwx] at hsz P2 J1 J2 J3 BX
  rw [hR] at P2 z1
  have hwx' : (w1.alloc (.cells #[.int .u64 (wd p 0 : Int), .int .u64 (wd p 1 : Int), .int .u64 (wd p 2 : Int), .int .u64 (wd p 3 : Int), .int .u64 (wd p 4 : Int), .int .u64 (wd p 5 : Int), .int .u64 (wd p 6 : Int), .int .u64 (wd p 7 : Int)] 119)).alloc (.cells #[.int .u64 (wd q 0 : Int), .int .u64 (wd q 1 : Int), .int .u64 (wd q 2 : Int), .int .u64 (wd q 3 : Int), .int .u64 (wd q 4 : Int), .int .u64 (wd q 5 : Int), .int .u64 (wd q 6 : Int), .int .u64 (wd q 7 : Int)] 119) = wx := hwx
  rw [hwx', hR]
  clear hwx hwx' I1 I2 I3 B1 hs1
  have HP2 := Lib.hid P2
  have HJ3 := Lib.hid J3
  have HBX := Lib.hid BX
  have Hsz := Lib.hid hsz
  have sa := J1.sign
  have sb := J2.sign
  obtain ⟨⟨a0, b0⟩, ⟨a1, b1⟩, ⟨a2, b2⟩, ⟨a3, b3⟩, ⟨a4, b4⟩, ⟨a5, b5⟩, ⟨a6, b6⟩, ⟨a7, b7⟩⟩ := P2.1.eight
  obtain ⟨⟨c0, d0⟩, ⟨c1, d1⟩, ⟨c2, d2⟩, ⟨c3, d3⟩, ⟨c4, d4⟩, ⟨c5, d5⟩, ⟨c6, d6⟩, ⟨c7, d7⟩⟩ := P2.2.eight
  clear P2 J1 J2 BX hsz hR
  clear J3
  go_wp2_with fail
  refine (HS.out _).mono ?_
  rintro e w2 ⟨rfl, hw2⟩
  have M3 := Lib.hid (HJ3.out.keep hw2 (by rw [Hsz.out]; omega))
  have MB : Hid (Below S w w2) := HBX.out.trans (hw2.mono (by rw [Hsz.out]; omega))
  obtain ⟨⟨g0, h0⟩, ⟨g1, h1⟩, ⟨g2, h2⟩, ⟨g3, h3⟩, ⟨g4, h4⟩, ⟨g5, h5⟩, ⟨g6, h6⟩, ⟨g7, h7⟩, ⟨g8, h8⟩⟩ := M3.out.nine
  clear hw2
  go_wp2_with fail
  refine bodyPost_ret (v := .tuple #[intV z p, .nilIface]) (by rw [results_cell_tmp rfl]; go_simp; try rfl) rfl ⟨rfl, ?_⟩
  exact (st9_but w2 (S + 1 + 1) z p).2.1 S w (by omega) MB.out
 ·have hq0 : decide (q = 0) = false := decide_eq_false (fun h => hf (HF.out.1 h))
  rw [hq0] at hne
  rw [resV_over hf]
  clear hf hq0 HF
  unfold wordsV at HC
  unfold intV
  go_enter Tryz.func93, Tryz.ntmps93
  go_wp2_with fail
  refine (HC.out _).mono ?_
  rintro e w1 ⟨rfl, hw1⟩
  have I1 := Lib.hid (HT.out.1.keep hw1 (k4 _ (by omega)))
  have I2 := Lib.hid (HT.out.2.1.keep hw1 (k4 _ (by omega)))
  have I3 := Lib.hid (HT.out.2.2.1.keep hw1 (k4 _ (by omega)))
  have B1 : Hid (Below S w w1) := HT.out.2.2.2.1.trans (hw1.mono (Nat.le_of_lt (k4 _ (by omega))))
  have z1 : S + 1 + 1 + 1 ≤ w1.heap.size := by have := hw1.size; rw [HT.out.2.2.2.2] at this; exact this
  clear hw1 k4 HT hW HC a0 a1 a2 a3 a4 a5 a6 a7 a8 b0 b1 b2 b3 b4 b5 b6 b7 b8 c0 c1 c2 c3 c4 c5 c6 c7 c8 d0 d1 d2 d3 d4 d5 d6 d7 d8
  go_upto_region 2 with fail
  obtain ⟨R, hR⟩ : ∃ R, w1.heap.size = R := ⟨_, rfl⟩
  obtain ⟨wx, hwx⟩ : ∃ wx, (w1.alloc (boxO p 119)).alloc (boxO q 119) = wx := ⟨_, rfl⟩
  have hsz : ((w1.alloc (boxO p 119)).alloc (boxO q 119)).heap.size = R + 1 + 1 := by simp [hR]
  have hs1 : (w1.alloc (boxO p 119)).heap.size = R + 1 := by simp [hR]
  have P2 := (two_more w1 p q 119 119)
  have J1 := (I1.out.alloc (by omega) (boxO p 119)).alloc (Nat.lt_of_lt_of_eq (show S < R + 1 by omega) hs1.symm) (boxO q 119)
  have J2 := (I2.out.alloc (by omega) (boxO p 119)).alloc (Nat.lt_of_lt_of_eq (show S + 1 < R + 1 by omega) hs1.symm) (boxO q 119)
  have J3 := (I3.out.alloc (by omega) (boxO p 119)).alloc (Nat.lt_of_lt_of_eq (show S + 1 + 1 < R + 1 by omega) hs1.symm) (boxO q 119)
  have BX : Below S w ((w1.alloc (boxO p 119)).alloc (boxO q 119)) := (B1.out.alloc (by omega) _).alloc (Nat.le_trans (show S ≤ R + 1 by omega) (Nat.le_of_eq hs1.symm)) _
  rw [hwx] at hsz P2 J1 J2 J3 BX
  rw [hR] at P2 z1
  have hwx' : (w1.alloc (.cells #[.int .u64 (wd p 0 : Int), .int .u64 (wd p 1 : Int), .int .u64 (wd p 2 : Int), .int .u64 (wd p 3 : Int), .int .u64 (wd p 4 : Int), .int .u64 (wd p 5 : Int), .int .u64 (wd p 6 : Int), .int .u64 (wd p 7 : Int)] 119)).alloc (.cells #[.int .u64 (wd q 0 : Int), .int .u64 (wd q 1 : Int), .int .u64 (wd q 2 : Int), .int .u64 (wd q 3 : Int), .int .u64 (wd q 4 : Int), .int .u64 (wd q 5 : Int), .int .u64 (wd q 6 : Int), .int .u64 (wd q 7 : Int)] 119) = wx := hwx
  rw [hwx', hR]
  clear hwx hwx' I1 I2 I3 B1 hs1
  have HP2 := Lib.hid P2
  have HJ3 := Lib.hid J3
  have HBX := Lib.hid BX
  have Hsz := Lib.hid hsz
  have sa := J1.sign
  have sb := J2.sign
  obtain ⟨⟨a0, b0⟩, ⟨a1, b1⟩, ⟨a2, b2⟩, ⟨a3, b3⟩, ⟨a4, b4⟩, ⟨a5, b5⟩, ⟨a6, b6⟩, ⟨a7, b7⟩⟩ := P2.1.eight
  obtain ⟨⟨c0, d0⟩, ⟨c1, d1⟩, ⟨c2, d2⟩, ⟨c3, d3⟩, ⟨c4, d4⟩, ⟨c5, d5⟩, ⟨c6, d6⟩, ⟨c7, d7⟩⟩ := P2.2.eight
  clear P2 J1 J2 BX hsz hR
  obtain ⟨⟨g0, h0⟩, ⟨g1, h1⟩, ⟨g2, h2⟩, ⟨g3, h3⟩, ⟨g4, h4⟩, ⟨g5, h5⟩, ⟨g6, h6⟩, ⟨g7, h7⟩, ⟨g8, h8⟩⟩ := J3.nine
  clear J3
  go_wp2_with fail
  refine bodyPost_ret (v := .tuple #[intV false 0, errno 9]) (by rw [results_cell_tmp rfl]; go_simp; exact ⟨by simp only [intV, wd_zero, Int.natCast_zero], rfl⟩) rfl ⟨rfl, ?_⟩
  have := (st9_but wx (S + 1 + 1) false 0).2.1 S w (by omega) HBX.out
  unfold st9 at this
  simpa only [wd_zero, Int.natCast_zero] using this
end Go.Proofs.YtgoemhcngmpfbaaGreatDoor
namespace Go.Proofs.YtgoemhcngmpfbaaGreatDoor
open Go.RowKit Go.Sort
theorem results_cell2_tmp {fn : Func} {p q u : Tmp} {ty tz : TypeId} (h : fn.results = #[.cell p ty, .cell q tz, .tmp u]) (tmps : Array Value) (P : Program) (w : World) :
  (results fn tmps).run P w = ((asAddr (tmps.getD p undef)).run P w).andThen fun a w₁ => ((loadVar ty a).run P w₁).andThen fun v w₂ => ((asAddr (tmps.getD q undef)).run P w₂).andThen fun b w₃ => ((loadVar tz b).run P w₃).andThen fun x w₄ => .ok (.tuple #[v, x, tmps.getD u undef]) w₄ := by
 simp only [results, h]
 simp [Sem.run_bind, Result.andThen]
theorem four_ints (w : World) (s : Bool) (n : Nat) (t : Bool) (m : Nat) (T U V X : TypeId) : IntAt ((((w.alloc (boxI s n T)).alloc (boxI t m U)).alloc (boxIZ V)).alloc (boxIZ X)) w.heap.size s n ∧ IntAt ((((w.alloc (boxI s n T)).alloc (boxI t m U)).alloc (boxIZ V)).alloc (boxIZ X)) (w.heap.size + 1) t m ∧ IntAt ((((w.alloc (boxI s n T)).alloc (boxI t m U)).alloc (boxIZ V)).alloc (boxIZ X)) (w.heap.size + 1 + 1) false 0 ∧ IntAt ((((w.alloc (boxI s n T)).alloc (boxI t m U)).alloc (boxIZ V)).alloc (boxIZ X)) (w.heap.size + 1 + 1 + 1) false 0 ∧ Below w.heap.size w ((((w.alloc (boxI s n T)).alloc (boxI t m U)).alloc (boxIZ V)).alloc (boxIZ X)) ∧ ((((w.alloc (boxI s n T)).alloc (boxI t m U)).alloc (boxIZ V)).alloc (boxIZ X)).heap.size = w.heap.size + 1 + 1 + 1 + 1 := by
 obtain ⟨h1, h2, h3, h4, h5⟩ := three_ints w s n t m T U V
 refine ⟨h1.alloc (by omega) _, h2.alloc (by omega) _, h3.alloc (by omega) _, ?_, h4.alloc (by omega) _, by simp⟩
 have := IntAt.zero (((w.alloc (boxI s n T)).alloc (boxI t m U)).alloc (boxIZ V)) X
 rwa [h5] at this
end Go.Proofs.YtgoemhcngmpfbaaGreatDoor
namespace Go.Proofs.YtgoemhcngmpfbaaGreatDoor
open Go.RowKit Go.Sort
theorem div_cells {W : World} {S R n m q r : Nat} {s t : Bool} (I1 : IntAt W S s n) (I2 : IntAt W (S + 1) t m) (P1 : WordsAt W R 0 q 8) (P2 : WordsAt W (R + 1) 0 r 8) :
  W.cell? ⟨S, 0, none⟩ = some (.bool s) ∧ W.cell? ⟨S + 1, 0, none⟩ = some (.bool t) ∧ W.cell? ⟨R, 0, none⟩ = some (.int .u64 (wd q 0 : Int)) ∧ W.cell? ⟨R, 1, none⟩ = some (.int .u64 (wd q 1 : Int)) ∧ W.cell? ⟨R, 2, none⟩ = some (.int .u64 (wd q 2 : Int)) ∧ W.cell? ⟨R, 3, none⟩ = some (.int .u64 (wd q 3 : Int)) ∧ W.cell? ⟨R, 4, none⟩ = some (.int .u64 (wd q 4 : Int)) ∧ W.cell? ⟨R, 5, none⟩ = some (.int .u64 (wd q 5 : Int)) ∧ W.cell? ⟨R, 6, none⟩ = some (.int .u64 (wd q 6 : Int)) ∧ W.cell? ⟨R, 7, none⟩ = some (.int .u64 (wd q 7 : Int)) ∧ W.cell? ⟨R + 1, 0, none⟩ = some (.int .u64 (wd r 0 : Int)) ∧ W.cell? ⟨R + 1, 1, none⟩ = some (.int .u64 (wd r 1 : Int)) ∧ W.cell? ⟨R + 1, 2, none⟩ = some (.int .u64 (wd r 2 : Int)) ∧ W.cell? ⟨R + 1, 3, none⟩ = some (.int .u64 (wd r 3 : Int)) ∧ W.cell? ⟨R + 1, 4, none⟩ = some (.int .u64 (wd r 4 : Int)) ∧ W.cell? ⟨R + 1, 5, none⟩ = some (.int .u64 (wd r 5 : Int)) ∧ W.cell? ⟨R + 1, 6, none⟩ = some (.int .u64 (wd r 6 : Int)) ∧ W.cell? ⟨R + 1, 7, none⟩ = some (.int .u64 (wd r 7 : Int)) := by
 obtain ⟨⟨a0, _⟩, ⟨a1, _⟩, ⟨a2, _⟩, ⟨a3, _⟩, ⟨a4, _⟩, ⟨a5, _⟩, ⟨a6, _⟩, ⟨a7, _⟩⟩ := P1.eight
 obtain ⟨⟨c0, _⟩, ⟨c1, _⟩, ⟨c2, _⟩, ⟨c3, _⟩, ⟨c4, _⟩, ⟨c5, _⟩, ⟨c6, _⟩, ⟨c7, _⟩⟩ := P2.eight
 exact ⟨I1.sign, I2.sign, a0, a1, a2, a3, a4, a5, a6, a7, c0, c1, c2, c3, c4, c5, c6, c7⟩
set_option maxRecDepth 100000 in
set_option maxHeartbeats 4000000 in
theorem Div_pos (s : Bool) (n : Nat) (t : Bool) (m : Nat) (w : World) (hn : Hid (Fits n)) (hm : Hid (Fits m)) (hm0 : 0 < m) :
  Calls Tryz.prog 80 #[intV s n, intV t m] w fun e w' => e = .returned (.tuple #[intV (sgn (s != t) (n / m)) (n / m), intV (sgn s (n % m)) (n % m), .nilIface]) ∧ Below w.heap.size w w' := by
 obtain ⟨S, hS⟩ : ∃ S, w.heap.size = S := ⟨_, rfl⟩
 obtain ⟨W, hW⟩ : ∃ W, (((w.alloc (boxI s n 25)).alloc (boxI t m 25)).alloc (boxIZ 25)).alloc (boxIZ 25) = W := ⟨_, rfl⟩
 have T := four_ints w s n t m 25 25 25 25
 rw [hW, hS] at T
 have HT := Lib.hid T
 obtain ⟨⟨a0, b0⟩, ⟨a1, b1⟩, ⟨a2, b2⟩, ⟨a3, b3⟩, ⟨a4, b4⟩, ⟨a5, b5⟩, ⟨a6, b6⟩, ⟨a7, b7⟩, ⟨a8, b8⟩⟩ := T.1.nine
 obtain ⟨⟨c0, d0⟩, ⟨c1, d1⟩, ⟨c2, d2⟩, ⟨c3, d3⟩, ⟨c4, d4⟩, ⟨c5, d5⟩, ⟨c6, d6⟩, ⟨c7, d7⟩, ⟨c8, d8⟩⟩ := T.2.1.nine
 clear T
 rw [hS]
 have k4 : ∀ x, x < S + 1 + 1 + 1 + 1 → x < W.heap.size := fun x hx => Nat.lt_of_lt_of_eq hx HT.out.2.2.2.2.2.symm
 have heq := fun W => eqWords' m 0 W hm.out (Nat.pow_pos (by decide))
 rw [decide_eq_false (by omega)] at heq
 simp only [wordsV, wd_zero, Int.natCast_zero] at heq
 have HC := Lib.hid (fun W => divide_run n m W hn hm hm0)
 have hfq : Fits (n / m) := Nat.lt_of_le_of_lt (Nat.div_le_self _ _) hn.out
 have hfr : Fits (n % m) := Nat.lt_trans (Nat.mod_lt _ hm0) hm.out
 obtain ⟨q, hq⟩ : ∃ q, n / m = q := ⟨_, rfl⟩
 obtain ⟨r, hr⟩ : ∃ r, n % m = r := ⟨_, rfl⟩
 obtain ⟨x, hx⟩ : ∃ x, (s != t) = x := ⟨_, rfl⟩
 have hx3 : (s == t) = (!x) := by rw [← hx]; cases s <;> cases t <;> rfl
 rw [hq, hr] at HC ⊢
 rw [hq] at hfq
 rw [hr] at hfr
 rw [hx]
 have HS1 := Lib.hid (fun W => signed_run x q W hfq)
 have HS2 := Lib.hid (fun W => signed_run s r W hfr)
 obtain ⟨z, hz⟩ : ∃ z, sgn x q = z := ⟨_, rfl⟩
 obtain ⟨y, hy⟩ : ∃ y, sgn s r = y := ⟨_, rfl⟩
 rw [hz] at HS1 ⊢
 rw [hy] at HS2 ⊢
 clear hz hy hq hr hfq hfr hn hm hm0
 unfold wordsV at HC
 unfold wordsV intV at HS1 HS2
 unfold intV
 go_enter Tryz.func80, Tryz.ntmps80
 go_wp2_with fail
 refine (HC.out _).mono ?_
 rintro e w1 ⟨rfl, hw1⟩
 have I1 := HT.out.1.keep hw1 (k4 _ (by omega))
 have I2 := HT.out.2.1.keep hw1 (k4 _ (by omega))
 have I3 := HT.out.2.2.1.keep hw1 (k4 _ (by omega))
 have I4 := HT.out.2.2.2.1.keep hw1 (k4 _ (by omega))
 have B1 : Below S w w1 := HT.out.2.2.2.2.1.trans (hw1.mono (Nat.le_of_lt (k4 _ (by omega))))
 have z1 : S + 1 + 1 + 1 + 1 ≤ w1.heap.size := by have := hw1.size; rw [HT.out.2.2.2.2.2] at this; exact this
 obtain ⟨R, hR⟩ : ∃ R, w1.heap.size = R := ⟨_, rfl⟩
 rw [hR] at z1
 have hs1 : (w1.alloc (boxO q 119)).heap.size = R + 1 := by simp [hR]
 have hs2 : ((w1.alloc (boxO q 119)).alloc (boxO r 119)).heap.size = R + 1 + 1 := by simp [hR]
 have P2 := two_boxes w1 q r 119 119
 rw [hR] at P2
 have J1 := (I1.alloc (by omega) (boxO q 119)).alloc (by omega) (boxO r 119)
 have J2 := (I2.alloc (by omega) (boxO q 119)).alloc (by omega) (boxO r 119)
 have J3 := (I3.alloc (by omega) (boxO q 119)).alloc (by omega) (boxO r 119)
 have J4 := (I4.alloc (by omega) (boxO q 119)).alloc (by omega) (boxO r 119)
 have BX : Below S w ((w1.alloc (boxO q 119)).alloc (boxO r 119)) := (B1.alloc (by omega) _).alloc (by omega) _
 obtain ⟨wx, hwx⟩ : ∃ wx, (w1.alloc (boxO q 119)).alloc (boxO r 119) = wx := ⟨_, rfl⟩
 rw [hwx] at P2 J1 J2 J3 J4 BX hs2
 clear hw1 k4 HT hW HC heq I1 I2 I3 I4 B1 hs1 a0 a1 a2 a3 a4 a5 a6 a7 a8 b0 b1 b2 b3 b4 b5 b6 b7 b8 c0 c1 c2 c3 c4 c5 c6 c7 c8 d0 d1 d2 d3 d4 d5 d6 d7 d8
 go_upto_region 4 with fail
 have HK : Hid (∀ w2, Below wx.drew.heap.size wx.drew w2 → IntAt w2 S s n ∧ IntAt w2 (S + 1) t m ∧ IntAt w2 (S + 1 + 1) false 0 ∧ IntAt w2 (S + 1 + 1 + 1) false 0 ∧ WordsAt w2 R 0 q 8 ∧ WordsAt w2 (R + 1) 0 r 8 ∧ Below S w w2 ∧ R + 1 + 1 ≤ w2.heap.size) := fun w2 hw2 => by
  have hd : wx.drew.heap.size = R + 1 + 1 := hs2
  exact ⟨J1.drew.keep hw2 (by omega), J2.drew.keep hw2 (by omega), J3.drew.keep hw2 (by omega), J4.drew.keep hw2 (by omega), WordsF.keep (w := wx.drew) P2.1 hw2 (by omega), WordsF.keep (w := wx.drew) P2.2.1 hw2 (by omega), BX.drew.trans (hw2.mono (by omega)), by have := hw2.size; omega⟩
 have D0 := Lib.hid (div_cells J1.drew J2.drew (show WordsAt wx.drew R 0 q 8 from P2.1) (show WordsAt wx.drew (R + 1) 0 r 8 from P2.2.1))
 have hRn : S + 1 + 1 + 1 + 1 ≤ R := z1
 have hxs : (s != t) = x := hx
 clear hwx P2 J1 J2 J3 J4 BX hs2 hR
 go_region_held3 (fun W' => W'.cell? ⟨S, 0, none⟩ = some (.bool s) ∧ W'.cell? ⟨S + 1, 0, none⟩ = some (.bool t) ∧ W'.cell? ⟨R, 0, none⟩ = some (.int .u64 (wd q 0 : Int)) ∧ W'.cell? ⟨R, 1, none⟩ = some (.int .u64 (wd q 1 : Int)) ∧ W'.cell? ⟨R, 2, none⟩ = some (.int .u64 (wd q 2 : Int)) ∧ W'.cell? ⟨R, 3, none⟩ = some (.int .u64 (wd q 3 : Int)) ∧ W'.cell? ⟨R, 4, none⟩ = some (.int .u64 (wd q 4 : Int)) ∧ W'.cell? ⟨R, 5, none⟩ = some (.int .u64 (wd q 5 : Int)) ∧ W'.cell? ⟨R, 6, none⟩ = some (.int .u64 (wd q 6 : Int)) ∧ W'.cell? ⟨R, 7, none⟩ = some (.int .u64 (wd q 7 : Int)) ∧ W'.cell? ⟨R + 1, 0, none⟩ = some (.int .u64 (wd r 0 : Int)) ∧ W'.cell? ⟨R + 1, 1, none⟩ = some (.int .u64 (wd r 1 : Int)) ∧ W'.cell? ⟨R + 1, 2, none⟩ = some (.int .u64 (wd r 2 : Int)) ∧ W'.cell? ⟨R + 1, 3, none⟩ = some (.int .u64 (wd r 3 : Int)) ∧ W'.cell? ⟨R + 1, 4, none⟩ = some (.int .u64 (wd r 4 : Int)) ∧ W'.cell? ⟨R + 1, 5, none⟩ = some (.int .u64 (wd r 5 : Int)) ∧ W'.cell? ⟨R + 1, 6, none⟩ = some (.int .u64 (wd r 6 : Int)) ∧ W'.cell? ⟨R + 1, 7, none⟩ = some (.int .u64 (wd r 7 : Int))) (first | with_reducible exact D0.out | with_reducible exact D2.out | with_reducible exact D3.out | with_reducible exact D4.out | with_reducible exact D5.out)
  (first
   | (go_at_call 53; have HLL := HL; clear HLL; refine (HS2.out _).mono ?_; rintro e w3 ⟨rfl, hw3⟩; have D3 := Lib.hid (div_cells (HL.out.1.keep hw3 (by omega)) (HL.out.2.1.keep hw3 (by omega)) (HL.out.2.2.2.2.1.keep hw3 (by omega)) (HL.out.2.2.2.2.2.keep hw3 (by omega))); have M3 := Lib.hid (HL.out.2.2.1.keep hw3 (by omega)); have M4 := Lib.hid (HL.out.2.2.2.1.keep hw3 (by omega)); have MB := Lib.hid (HLB.out.trans (hw3.mono (by omega))); obtain ⟨⟨g0, h0⟩, ⟨g1, h1⟩, ⟨g2, h2⟩, ⟨g3, h3⟩, ⟨g4, h4⟩, ⟨g5, h5⟩, ⟨g6, h6⟩, ⟨g7, h7⟩, ⟨g8, h8⟩⟩ := M3.out.nine; obtain ⟨⟨i0, j0⟩, ⟨i1, j1⟩, ⟨i2, j2⟩, ⟨i3, j3⟩, ⟨i4, j4⟩, ⟨i5, j5⟩, ⟨i6, j6⟩, ⟨i7, j7⟩, ⟨i8, j8⟩⟩ := M4.out.nine; have d4 := div_cells ((HL.out.1.keep hw3 (by omega)).but (st9_but w3 (S + 1 + 1) z q) (by omega)) ((HL.out.2.1.keep hw3 (by omega)).but (st9_but w3 (S + 1 + 1) z q) (by omega)) ((HL.out.2.2.2.2.1.keep hw3 (by omega)).but (st9_but w3 (S + 1 + 1) z q) (by omega)) ((HL.out.2.2.2.2.2.keep hw3 (by omega)).but (st9_but w3 (S + 1 + 1) z q) (by omega)); unfold st9 at d4; have D4 := Lib.hid d4; clear d4; have d5 := div_cells (((HL.out.1.keep hw3 (by omega)).but (st9_but w3 (S + 1 + 1) z q) (by omega)).but (st9_but (st9 w3 (S + 1 + 1) z q) (S + 1 + 1 + 1) y r) (by omega)) (((HL.out.2.1.keep hw3 (by omega)).but (st9_but w3 (S + 1 + 1) z q) (by omega)).but (st9_but (st9 w3 (S + 1 + 1) z q) (S + 1 + 1 + 1) y r) (by omega)) (((HL.out.2.2.2.2.1.keep hw3 (by omega)).but (st9_but w3 (S + 1 + 1) z q) (by omega)).but (st9_but (st9 w3 (S + 1 + 1) z q) (S + 1 + 1 + 1) y r) (by omega)) (((HL.out.2.2.2.2.2.keep hw3 (by omega)).but (st9_but w3 (S + 1 + 1) z q) (by omega)).but (st9_but (st9 w3 (S + 1 + 1) z q) (S + 1 + 1 + 1) y r) (by omega)); unfold st9 at d5; have D5 := Lib.hid d5; clear d5; clear hw3)
   | (go_at_call 53; refine (HS1.out _).mono ?_; rintro e w2 ⟨rfl, hw2⟩; obtain ⟨L1, L2, L3, L4, L5, L6, LB, lz⟩ := HK.out _ hw2; have HL := Lib.hid (And.intro L1 (And.intro L2 (And.intro L3 (And.intro L4 (And.intro L5 L6))))); have HLB := Lib.hid LB; have D2 := Lib.hid (div_cells L1 L2 L5 L6); clear L1 L2 L3 L4 L5 L6 LB hw2))
 all_goals go_wp2_with fail
 all_goals refine bodyPost_ret (v := .tuple #[intV z q, intV y r, .nilIface]) (by rw [results_cell2_tmp rfl]; go_simp; exact ⟨rfl, rfl⟩) rfl ⟨rfl, ?_⟩
 all_goals exact (st9_but (st9 w3 (S + 1 + 1) z q) (S + 1 + 1 + 1) y r).2.1 S w (by omega) ((st9_but w3 (S + 1 + 1) z q).2.1 S w (by omega) MB.out)
end Go.Proofs.YtgoemhcngmpfbaaGreatDoor
namespace Go.Proofs.YtgoemhcngmpfbaaGreatDoor
open Go.RowKit Go.Sort
theorem wd_small {k : Nat} (h : k < 18446744073709551616) : wd k 0 = k ∧ ∀ i, wd k (i + 1) = 0 := by
 refine ⟨?_, fun i => ?_⟩
 ·show k / 18446744073709551616 ^ 0 % 18446744073709551616 = k
  rw [Nat.pow_zero, Nat.div_one, Nat.mod_eq_of_lt h]
 ·show k / 18446744073709551616 ^ (i + 1) % 18446744073709551616 = 0
  rw [Nat.div_eq_of_lt (Nat.lt_of_lt_of_le h (Nat.le_self_pow (Nat.succ_ne_zero i) _)), Nat.zero_mod]
theorem wd_small' {k : Nat} (h : k < 18446744073709551616) : wd k 0 = k ∧ wd k 1 = 0 ∧ wd k 2 = 0 ∧ wd k 3 = 0 ∧ wd k 4 = 0 ∧ wd k 5 = 0 ∧ wd k 6 = 0 ∧ wd k 7 = 0 :=
 ⟨(wd_small h).1, (wd_small h).2 0, (wd_small h).2 1, (wd_small h).2 2, (wd_small h).2 3, (wd_small h).2 4, (wd_small h).2 5, (wd_small h).2 6⟩
theorem intV_small {k : Nat} (h : k < 18446744073709551616) (s : Bool) : intV s k = .agg #[.bool s, .int .u64 (k : Int), .int .u64 0, .int .u64 0, .int .u64 0, .int .u64 0, .int .u64 0, .int .u64 0, .int .u64 0] := by
 obtain ⟨h0, h1, h2, h3, h4, h5, h6, h7⟩ := wd_small' h
 simp only [intV, h0, h1, h2, h3, h4, h5, h6, h7, Int.natCast_zero]
set_option maxRecDepth 100000 in
set_option maxHeartbeats 2000000 in
theorem Of_run (z : Int) (w : World) (h1 : -9223372036854775808 ≤ z) (h2 : z < 9223372036854775808) :
  Calls Tryz.prog 52 #[.int .i64 z] w fun e w' => e = .returned (intV (decide (z < 0)) z.natAbs) ∧ Below w.heap.size w w' := by
 obtain ⟨k, hk⟩ : ∃ k, z.natAbs = k := ⟨_, rfl⟩
 have hk2 : k < 18446744073709551616 := by omega
 rw [hk, intV_small hk2]
 obtain ⟨S, hS⟩ : ∃ S, w.heap.size = S := ⟨_, rfl⟩
 rw [hS]
 by_cases hz : z < 0
 ·obtain ⟨c, hc⟩ : ∃ c, z + 18446744073709551616 = c := ⟨_, rfl⟩
  have r1 : IntKind.u64.wrap z = c := by rw [IntKind.wrap_u64]; omega
  have r2 : IntKind.u64.wrap (-c) = (k : Int) := by rw [IntKind.wrap_u64]; omega
  have r3 : decide (z < 0) = true := decide_eq_true hz
  rw [r3]
  clear hk hc h1 h2 hk2
  go_enter Tryz.func52, Tryz.ntmps52
  go_wp2_with fail
  refine bodyPost_ret (v := .agg #[.bool true, .int .u64 (k : Int), .int .u64 0, .int .u64 0, .int .u64 0, .int .u64 0, .int .u64 0, .int .u64 0, .int .u64 0]) (by rw [results_cell1 rfl]; go_simp) rfl ⟨rfl, ?_⟩
  exact ((Below.refl S w).alloc (Nat.le_of_eq hS.symm) _).alloc (by simp; omega) _
 ·have r1 : IntKind.u64.wrap z = (k : Int) := by rw [IntKind.wrap_u64]; omega
  have r3 : decide (z < 0) = false := decide_eq_false hz
  rw [r3]
  clear hk h1 h2 hk2
  go_enter Tryz.func52, Tryz.ntmps52
  go_wp2_with fail
  refine bodyPost_ret (v := .agg #[.bool false, .int .u64 (k : Int), .int .u64 0, .int .u64 0, .int .u64 0, .int .u64 0, .int .u64 0, .int .u64 0, .int .u64 0]) (by rw [results_cell1 rfl]; go_simp) rfl ⟨rfl, ?_⟩
  exact ((Below.refl S w).alloc (Nat.le_of_eq hS.symm) _).alloc (by simp; omega) _
end Go.Proofs.YtgoemhcngmpfbaaGreatDoor
