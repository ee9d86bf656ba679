/-
  Stage 7: limb's Div at a divisor that is not 0.
-/
import Derived.Test.YtgkhjeefcflmcaaGreatDoorMt08
import Derived.Deep.RegionHeld3
import Derived.Laws.EntriesVeiled
namespace Go.Proofs.YtgkhjeefcflmcaaGreatDoor
open Go.RowKit Go.Sort
theorem div_cells {W : World} {S R n m q r : Nat} {s t : Bool} (I1 : IntAt W S s n) (I2 : IntAt W (S + 1) t m) (P1 : WordsAt W R 0 q 8) (P2 : WordsAt W (R + 1) 0 r 8) :
  W.cell? ⟨S, 0, none⟩ = some (.bool s) ∧ W.cell? ⟨S + 1, 0, none⟩ = some (.bool t) ∧ W.cell? ⟨R, 0, none⟩ = some (.int .u64 (wd q 0 : Int)) ∧ W.cell? ⟨R, 1, none⟩ = some (.int .u64 (wd q 1 : Int)) ∧ W.cell? ⟨R, 2, none⟩ = some (.int .u64 (wd q 2 : Int)) ∧ W.cell? ⟨R, 3, none⟩ = some (.int .u64 (wd q 3 : Int)) ∧ W.cell? ⟨R, 4, none⟩ = some (.int .u64 (wd q 4 : Int)) ∧ W.cell? ⟨R, 5, none⟩ = some (.int .u64 (wd q 5 : Int)) ∧ W.cell? ⟨R, 6, none⟩ = some (.int .u64 (wd q 6 : Int)) ∧ W.cell? ⟨R, 7, none⟩ = some (.int .u64 (wd q 7 : Int)) ∧ W.cell? ⟨R + 1, 0, none⟩ = some (.int .u64 (wd r 0 : Int)) ∧ W.cell? ⟨R + 1, 1, none⟩ = some (.int .u64 (wd r 1 : Int)) ∧ W.cell? ⟨R + 1, 2, none⟩ = some (.int .u64 (wd r 2 : Int)) ∧ W.cell? ⟨R + 1, 3, none⟩ = some (.int .u64 (wd r 3 : Int)) ∧ W.cell? ⟨R + 1, 4, none⟩ = some (.int .u64 (wd r 4 : Int)) ∧ W.cell? ⟨R + 1, 5, none⟩ = some (.int .u64 (wd r 5 : Int)) ∧ W.cell? ⟨R + 1, 6, none⟩ = some (.int .u64 (wd r 6 : Int)) ∧ W.cell? ⟨R + 1, 7, none⟩ = some (.int .u64 (wd r 7 : Int)) := by
 obtain ⟨⟨a0, _⟩, ⟨a1, _⟩, ⟨a2, _⟩, ⟨a3, _⟩, ⟨a4, _⟩, ⟨a5, _⟩, ⟨a6, _⟩, ⟨a7, _⟩⟩ := P1.eight
 obtain ⟨⟨c0, _⟩, ⟨c1, _⟩, ⟨c2, _⟩, ⟨c3, _⟩, ⟨c4, _⟩, ⟨c5, _⟩, ⟨c6, _⟩, ⟨c7, _⟩⟩ := P2.eight
 exact ⟨I1.sign, I2.sign, a0, a1, a2, a3, a4, a5, a6, a7, c0, c1, c2, c3, c4, c5, c6, c7⟩
set_option maxRecDepth 100000 in
set_option maxHeartbeats 4000000 in
theorem Div_pos (s : Bool) (n : Nat) (t : Bool) (m : Nat) (w : World) (hn : Hid (Fits n)) (hm : Hid (Fits m)) (hm0 : 0 < m) :
  Calls Tryz.prog 253 #[intV s n, intV t m] w fun e w' => e = .returned (.tuple #[intV (sgn (s != t) (n / m)) (n / m), intV (sgn s (n % m)) (n % m), .nilIface]) ∧ Below w.heap.size w w' := by
 obtain ⟨S, hS⟩ : ∃ S, w.heap.size = S := ⟨_, rfl⟩
 obtain ⟨W, hW⟩ : ∃ W, (((w.alloc (boxI s n 92)).alloc (boxI t m 92)).alloc (boxIZ 92)).alloc (boxIZ 92) = W := ⟨_, rfl⟩
 have T := four_ints w s n t m 92 92 92 92
 rw [hW, hS] at T
 have HT := Lib.hid T
 obtain ⟨⟨a0, b0⟩, ⟨a1, b1⟩, ⟨a2, b2⟩, ⟨a3, b3⟩, ⟨a4, b4⟩, ⟨a5, b5⟩, ⟨a6, b6⟩, ⟨a7, b7⟩, ⟨a8, b8⟩⟩ := T.1.nine
 obtain ⟨⟨c0, d0⟩, ⟨c1, d1⟩, ⟨c2, d2⟩, ⟨c3, d3⟩, ⟨c4, d4⟩, ⟨c5, d5⟩, ⟨c6, d6⟩, ⟨c7, d7⟩, ⟨c8, d8⟩⟩ := T.2.1.nine
 clear T
 rw [hS]
 have k4 : ∀ x, x < S + 1 + 1 + 1 + 1 → x < W.heap.size := fun x hx => Nat.lt_of_lt_of_eq hx HT.out.2.2.2.2.2.symm
 have heq := fun W => eqWords' m 0 W hm.out (Nat.pow_pos (by decide))
 rw [decide_eq_false (by omega)] at heq
 simp only [wordsV, wd_zero, Int.natCast_zero] at heq
 have HC := Lib.hid (fun W => divide_run n m W hn hm hm0)
 have hfq : Fits (n / m) := Nat.lt_of_le_of_lt (Nat.div_le_self _ _) hn.out
 have hfr : Fits (n % m) := Nat.lt_trans (Nat.mod_lt _ hm0) hm.out
 obtain ⟨q, hq⟩ : ∃ q, n / m = q := ⟨_, rfl⟩
 obtain ⟨r, hr⟩ : ∃ r, n % m = r := ⟨_, rfl⟩
 obtain ⟨x, hx⟩ : ∃ x, (s != t) = x := ⟨_, rfl⟩
 have hx3 : (s == t) = (!x) := by rw [← hx]; cases s <;> cases t <;> rfl
 rw [hq, hr] at HC ⊢
 rw [hq] at hfq
 rw [hr] at hfr
 rw [hx]
 have HS1 := Lib.hid (fun W => signed_run x q W hfq)
 have HS2 := Lib.hid (fun W => signed_run s r W hfr)
 obtain ⟨z, hz⟩ : ∃ z, sgn x q = z := ⟨_, rfl⟩
 obtain ⟨y, hy⟩ : ∃ y, sgn s r = y := ⟨_, rfl⟩
 rw [hz] at HS1 ⊢
 rw [hy] at HS2 ⊢
 clear hz hy hq hr hfq hfr hn hm hm0
 unfold wordsV at HC
 unfold wordsV intV at HS1 HS2
 unfold intV
 go_enter Tryz.func253, Tryz.ntmps253
 go_wp2_with fail
 refine (HC.out _).mono ?_
 rintro e w1 ⟨rfl, hw1⟩
 have I1 := HT.out.1.keep hw1 (k4 _ (by omega))
 have I2 := HT.out.2.1.keep hw1 (k4 _ (by omega))
 have I3 := HT.out.2.2.1.keep hw1 (k4 _ (by omega))
 have I4 := HT.out.2.2.2.1.keep hw1 (k4 _ (by omega))
 have B1 : Below S w w1 := HT.out.2.2.2.2.1.trans (hw1.mono (Nat.le_of_lt (k4 _ (by omega))))
 have z1 : S + 1 + 1 + 1 + 1 ≤ w1.heap.size := by have := hw1.size; rw [HT.out.2.2.2.2.2] at this; exact this
 obtain ⟨R, hR⟩ : ∃ R, w1.heap.size = R := ⟨_, rfl⟩
 rw [hR] at z1
 have hs1 : (w1.alloc (boxO q 217)).heap.size = R + 1 := by simp [hR]
 have hs2 : ((w1.alloc (boxO q 217)).alloc (boxO r 217)).heap.size = R + 1 + 1 := by simp [hR]
 have P2 := two_boxes w1 q r 217 217
 rw [hR] at P2
 have J1 := (I1.alloc (by omega) (boxO q 217)).alloc (by omega) (boxO r 217)
 have J2 := (I2.alloc (by omega) (boxO q 217)).alloc (by omega) (boxO r 217)
 have J3 := (I3.alloc (by omega) (boxO q 217)).alloc (by omega) (boxO r 217)
 have J4 := (I4.alloc (by omega) (boxO q 217)).alloc (by omega) (boxO r 217)
 have BX : Below S w ((w1.alloc (boxO q 217)).alloc (boxO r 217)) := (B1.alloc (by omega) _).alloc (by omega) _
 obtain ⟨wx, hwx⟩ : ∃ wx, (w1.alloc (boxO q 217)).alloc (boxO r 217) = wx := ⟨_, rfl⟩
 rw [hwx] at P2 J1 J2 J3 J4 BX hs2
 clear hw1 k4 HT hW HC heq I1 I2 I3 I4 B1 hs1 a0 a1 a2 a3 a4 a5 a6 a7 a8 b0 b1 b2 b3 b4 b5 b6 b7 b8 c0 c1 c2 c3 c4 c5 c6 c7 c8 d0 d1 d2 d3 d4 d5 d6 d7 d8
 go_upto_region 4 with fail
 have HK : Hid (∀ w2, Below wx.drew.heap.size wx.drew w2 → IntAt w2 S s n ∧ IntAt w2 (S + 1) t m ∧ IntAt w2 (S + 1 + 1) false 0 ∧ IntAt w2 (S + 1 + 1 + 1) false 0 ∧ WordsAt w2 R 0 q 8 ∧ WordsAt w2 (R + 1) 0 r 8 ∧ Below S w w2 ∧ R + 1 + 1 ≤ w2.heap.size) := fun w2 hw2 => by
  have hd : wx.drew.heap.size = R + 1 + 1 := hs2
  exact ⟨J1.drew.keep hw2 (by omega), J2.drew.keep hw2 (by omega), J3.drew.keep hw2 (by omega), J4.drew.keep hw2 (by omega), WordsF.keep (w := wx.drew) P2.1 hw2 (by omega), WordsF.keep (w := wx.drew) P2.2.1 hw2 (by omega), BX.drew.trans (hw2.mono (by omega)), by have := hw2.size; omega⟩
 have D0 := Lib.hid (div_cells J1.drew J2.drew (show WordsAt wx.drew R 0 q 8 from P2.1) (show WordsAt wx.drew (R + 1) 0 r 8 from P2.2.1))
 have hRn : S + 1 + 1 + 1 + 1 ≤ R := z1
 have hxs : (s != t) = x := hx
 clear hwx P2 J1 J2 J3 J4 BX hs2 hR
 go_region_held3 (fun W' => W'.cell? ⟨S, 0, none⟩ = some (.bool s) ∧ W'.cell? ⟨S + 1, 0, none⟩ = some (.bool t) ∧ W'.cell? ⟨R, 0, none⟩ = some (.int .u64 (wd q 0 : Int)) ∧ W'.cell? ⟨R, 1, none⟩ = some (.int .u64 (wd q 1 : Int)) ∧ W'.cell? ⟨R, 2, none⟩ = some (.int .u64 (wd q 2 : Int)) ∧ W'.cell? ⟨R, 3, none⟩ = some (.int .u64 (wd q 3 : Int)) ∧ W'.cell? ⟨R, 4, none⟩ = some (.int .u64 (wd q 4 : Int)) ∧ W'.cell? ⟨R, 5, none⟩ = some (.int .u64 (wd q 5 : Int)) ∧ W'.cell? ⟨R, 6, none⟩ = some (.int .u64 (wd q 6 : Int)) ∧ W'.cell? ⟨R, 7, none⟩ = some (.int .u64 (wd q 7 : Int)) ∧ W'.cell? ⟨R + 1, 0, none⟩ = some (.int .u64 (wd r 0 : Int)) ∧ W'.cell? ⟨R + 1, 1, none⟩ = some (.int .u64 (wd r 1 : Int)) ∧ W'.cell? ⟨R + 1, 2, none⟩ = some (.int .u64 (wd r 2 : Int)) ∧ W'.cell? ⟨R + 1, 3, none⟩ = some (.int .u64 (wd r 3 : Int)) ∧ W'.cell? ⟨R + 1, 4, none⟩ = some (.int .u64 (wd r 4 : Int)) ∧ W'.cell? ⟨R + 1, 5, none⟩ = some (.int .u64 (wd r 5 : Int)) ∧ W'.cell? ⟨R + 1, 6, none⟩ = some (.int .u64 (wd r 6 : Int)) ∧ W'.cell? ⟨R + 1, 7, none⟩ = some (.int .u64 (wd r 7 : Int))) (first | with_reducible exact D0.out | with_reducible exact D2.out | with_reducible exact D3.out | with_reducible exact D4.out | with_reducible exact D5.out)
  (first
   | (go_at_call 221; have HLL := HL; clear HLL; refine (HS2.out _).mono ?_; rintro e w3 ⟨rfl, hw3⟩; have D3 := Lib.hid (div_cells (HL.out.1.keep hw3 (by omega)) (HL.out.2.1.keep hw3 (by omega)) (HL.out.2.2.2.2.1.keep hw3 (by omega)) (HL.out.2.2.2.2.2.keep hw3 (by omega))); have M3 := Lib.hid (HL.out.2.2.1.keep hw3 (by omega)); have M4 := Lib.hid (HL.out.2.2.2.1.keep hw3 (by omega)); have MB := Lib.hid (HLB.out.trans (hw3.mono (by omega))); obtain ⟨⟨g0, h0⟩, ⟨g1, h1⟩, ⟨g2, h2⟩, ⟨g3, h3⟩, ⟨g4, h4⟩, ⟨g5, h5⟩, ⟨g6, h6⟩, ⟨g7, h7⟩, ⟨g8, h8⟩⟩ := M3.out.nine; obtain ⟨⟨i0, j0⟩, ⟨i1, j1⟩, ⟨i2, j2⟩, ⟨i3, j3⟩, ⟨i4, j4⟩, ⟨i5, j5⟩, ⟨i6, j6⟩, ⟨i7, j7⟩, ⟨i8, j8⟩⟩ := M4.out.nine; have d4 := div_cells ((HL.out.1.keep hw3 (by omega)).but (st9_but w3 (S + 1 + 1) z q) (by omega)) ((HL.out.2.1.keep hw3 (by omega)).but (st9_but w3 (S + 1 + 1) z q) (by omega)) ((HL.out.2.2.2.2.1.keep hw3 (by omega)).but (st9_but w3 (S + 1 + 1) z q) (by omega)) ((HL.out.2.2.2.2.2.keep hw3 (by omega)).but (st9_but w3 (S + 1 + 1) z q) (by omega)); unfold st9 at d4; have D4 := Lib.hid d4; clear d4; have d5 := div_cells (((HL.out.1.keep hw3 (by omega)).but (st9_but w3 (S + 1 + 1) z q) (by omega)).but (st9_but (st9 w3 (S + 1 + 1) z q) (S + 1 + 1 + 1) y r) (by omega)) (((HL.out.2.1.keep hw3 (by omega)).but (st9_but w3 (S + 1 + 1) z q) (by omega)).but (st9_but (st9 w3 (S + 1 + 1) z q) (S + 1 + 1 + 1) y r) (by omega)) (((HL.out.2.2.2.2.1.keep hw3 (by omega)).but (st9_but w3 (S + 1 + 1) z q) (by omega)).but (st9_but (st9 w3 (S + 1 + 1) z q) (S + 1 + 1 + 1) y r) (by omega)) (((HL.out.2.2.2.2.2.keep hw3 (by omega)).but (st9_but w3 (S + 1 + 1) z q) (by omega)).but (st9_but (st9 w3 (S + 1 + 1) z q) (S + 1 + 1 + 1) y r) (by omega)); unfold st9 at d5; have D5 := Lib.hid d5; clear d5; clear hw3)
   | (go_at_call 221; refine (HS1.out _).mono ?_; rintro e w2 ⟨rfl, hw2⟩; obtain ⟨L1, L2, L3, L4, L5, L6, LB, lz⟩ := HK.out _ hw2; have HL := Lib.hid (And.intro L1 (And.intro L2 (And.intro L3 (And.intro L4 (And.intro L5 L6))))); have HLB := Lib.hid LB; have D2 := Lib.hid (div_cells L1 L2 L5 L6); clear L1 L2 L3 L4 L5 L6 LB hw2))
 all_goals go_wp2_with fail
 all_goals refine bodyPost_ret (v := .tuple #[intV z q, intV y r, .nilIface]) (by rw [results_cell2_tmp rfl]; go_simp; exact ⟨rfl, rfl⟩) rfl ⟨rfl, ?_⟩
 all_goals exact (st9_but (st9 w3 (S + 1 + 1) z q) (S + 1 + 1 + 1) y r).2.1 S w (by omega) ((st9_but w3 (S + 1 + 1) z q).2.1 S w (by omega) MB.out)
end Go.Proofs.YtgkhjeefcflmcaaGreatDoor
namespace Go.Proofs.YtgkhjeefcflmcaaGreatDoor
open Go.RowKit Go.Sort
theorem wd_small {k : Nat} (h : k < 18446744073709551616) : wd k 0 = k ∧ ∀ i, wd k (i + 1) = 0 := by
 refine ⟨?_, fun i => ?_⟩
 ·show k / 18446744073709551616 ^ 0 % 18446744073709551616 = k
  rw [Nat.pow_zero, Nat.div_one, Nat.mod_eq_of_lt h]
 ·show k / 18446744073709551616 ^ (i + 1) % 18446744073709551616 = 0
  rw [Nat.div_eq_of_lt (Nat.lt_of_lt_of_le h (Nat.le_self_pow (Nat.succ_ne_zero i) _)), Nat.zero_mod]
theorem wd_small' {k : Nat} (h : k < 18446744073709551616) : wd k 0 = k ∧ wd k 1 = 0 ∧ wd k 2 = 0 ∧ wd k 3 = 0 ∧ wd k 4 = 0 ∧ wd k 5 = 0 ∧ wd k 6 = 0 ∧ wd k 7 = 0 :=
 ⟨(wd_small h).1, (wd_small h).2 0, (wd_small h).2 1, (wd_small h).2 2, (wd_small h).2 3, (wd_small h).2 4, (wd_small h).2 5, (wd_small h).2 6⟩
theorem intV_small {k : Nat} (h : k < 18446744073709551616) (s : Bool) : intV s k = .agg #[.bool s, .int .u64 (k : Int), .int .u64 0, .int .u64 0, .int .u64 0, .int .u64 0, .int .u64 0, .int .u64 0, .int .u64 0] := by
 obtain ⟨h0, h1, h2, h3, h4, h5, h6, h7⟩ := wd_small' h
 simp only [intV, h0, h1, h2, h3, h4, h5, h6, h7, Int.natCast_zero]
set_option maxRecDepth 100000 in
set_option maxHeartbeats 2000000 in
theorem Of_run (z : Int) (w : World) (h1 : -9223372036854775808 ≤ z) (h2 : z < 9223372036854775808) :
  Calls Tryz.prog 135 #[.int .i64 z] w fun e w' => e = .returned (intV (decide (z < 0)) z.natAbs) ∧ Below w.heap.size w w' := by
 obtain ⟨k, hk⟩ : ∃ k, z.natAbs = k := ⟨_, rfl⟩
 have hk2 : k < 18446744073709551616 := by omega
 rw [hk, intV_small hk2]
 obtain ⟨S, hS⟩ : ∃ S, w.heap.size = S := ⟨_, rfl⟩
 rw [hS]
 by_cases hz : z < 0
 ·obtain ⟨c, hc⟩ : ∃ c, z + 18446744073709551616 = c := ⟨_, rfl⟩
  have r1 : IntKind.u64.wrap z = c := by rw [IntKind.wrap_u64]; omega
  have r2 : IntKind.u64.wrap (-c) = (k : Int) := by rw [IntKind.wrap_u64]; omega
  have r3 : decide (z < 0) = true := decide_eq_true hz
  rw [r3]
  clear hk hc h1 h2 hk2
  go_enter Tryz.func135, Tryz.ntmps135
  go_wp2_with fail
  refine bodyPost_ret (v := .agg #[.bool true, .int .u64 (k : Int), .int .u64 0, .int .u64 0, .int .u64 0, .int .u64 0, .int .u64 0, .int .u64 0, .int .u64 0]) (by rw [results_cell1 rfl]; go_simp) rfl ⟨rfl, ?_⟩
  exact ((Below.refl S w).alloc (Nat.le_of_eq hS.symm) _).alloc (by simp; omega) _
 ·have r1 : IntKind.u64.wrap z = (k : Int) := by rw [IntKind.wrap_u64]; omega
  have r3 : decide (z < 0) = false := decide_eq_false hz
  rw [r3]
  clear hk h1 h2 hk2
  go_enter Tryz.func135, Tryz.ntmps135
  go_wp2_with fail
  refine bodyPost_ret (v := .agg #[.bool false, .int .u64 (k : Int), .int .u64 0, .int .u64 0, .int .u64 0, .int .u64 0, .int .u64 0, .int .u64 0, .int .u64 0]) (by rw [results_cell1 rfl]; go_simp) rfl ⟨rfl, ?_⟩
  exact ((Below.refl S w).alloc (Nat.le_of_eq hS.symm) _).alloc (by simp; omega) _
end Go.Proofs.YtgkhjeefcflmcaaGreatDoor
namespace Go.Proofs.YtgkhjeefcflmcaaGreatDoor
open Go.RowKit Go.Sort
def errV (k : Nat) : Value := if k = 0 then .nilIface else errno k
theorem errV_pos {k : Nat} (h : k ≠ 0) : errV k = .iface 35 (.int .i64 k) := if_neg h
def sgZ (s : Bool) (n : Nat) : Int := if n = 0 then 0 else if s then -1 else 1
theorem sgZ_eq (s : Bool) (n : Nat) : cmpS s n false 0 = sgZ s n := by
 unfold cmpS sgZ
 have h0 : sgn false 0 = false := rfl
 rw [h0]
 by_cases hn : n = 0
 ·subst hn
  rw [if_pos rfl]
  cases s <;> rfl
 ·rw [if_neg hn]
  have h1 : sgn s n = s := by rw [sgn, decide_eq_false hn]; simp
  rw [h1]
  cases s with
  | false => simp; exact cmpN_gt (by omega)
  | true => simp
set_option maxRecDepth 100000 in
set_option maxHeartbeats 2000000 in
theorem sign_run (s : Bool) (n : Nat) (c : Int) (w : World) (hn : Hid (Fits n)) (hc : Hid (sgZ s n = c)) :
  Calls Tryz.prog 194 #[intV s n] w fun e w' => e = .returned (.int .i64 c) ∧ Below w.heap.size w w' := by
 have HC := Lib.hid (fun W => Cmp_run s n false 0 c W hn (Nat.pow_pos (by decide)) (Lib.hid ((sgZ_eq s n).trans hc.out)))
 have HB := Lib.hid (below_alloc w (boxI s n 92))
 have h0 : intV false 0 = .agg #[.bool false, .int .u64 0, .int .u64 0, .int .u64 0, .int .u64 0, .int .u64 0, .int .u64 0, .int .u64 0, .int .u64 0] := intV_small (by decide) false
 rw [h0] at HC
 clear h0 hn hc
 unfold intV at HC ⊢
 go_enter Tryz.func194, Tryz.ntmps194
 go_wp2_with fail
 refine (HC.out _).mono ?_
 rintro e w1 ⟨rfl, hw1⟩
 have B1 : Hid (Below w.heap.size w w1) := HB.out.trans (hw1.mono (by simp))
 clear hw1
 go_wp2_with fail
 go_ret
 exact ⟨rfl, B1.out⟩
structure ErrAt (w : World) (b k : Nat) : Prop where
 cell : w.cell? ⟨b, 0, none⟩ = some (errV k)
 free : w.frozen? ⟨b, 0, none⟩ = false
set_option maxHeartbeats 2000000 in
theorem failed_zero (b : Nat) (w : World) (h : Hid (ErrAt w b 0)) :
  Calls Tryz.prog 218 #[.pointer (some ⟨b, 0, none⟩)] w fun e w' => e = .returned (.bool false) ∧ w = w' := by
 have h1 : w.cell? ⟨b, 0, none⟩ = some .nilIface := h.out.cell
 go_enter Tryz.func218, Tryz.ntmps218
 go_wp2_with fail
 go_ret
 exact ⟨rfl, rfl⟩
set_option maxHeartbeats 2000000 in
theorem failed_pos (b k : Nat) (hk : k ≠ 0) (w : World) (h : Hid (ErrAt w b k)) :
  Calls Tryz.prog 218 #[.pointer (some ⟨b, 0, none⟩)] w fun e w' => e = .returned (.bool true) ∧ w = w' := by
 have h1 : w.cell? ⟨b, 0, none⟩ = some (.iface 35 (.int .i64 k)) := h.out.cell.trans (by rw [errV_pos hk])
 go_enter Tryz.func218, Tryz.ntmps218
 go_wp2_with fail
 go_ret
 exact ⟨rfl, rfl⟩
structure Ste (w w' : World) (b k : Nat) : Prop where
 cell : ∀ c o, c < w.heap.size → ¬ (c = b ∧ o = 0) → w'.cell? ⟨c, o, none⟩ = w.cell? ⟨c, o, none⟩
 free : ∀ c o, c < w.heap.size → w'.frozen? ⟨c, o, none⟩ = w.frozen? ⟨c, o, none⟩
 err : ErrAt w' b k
 size : w.heap.size ≤ w'.heap.size
 below : ∀ B w0, B ≤ b → B ≤ w.heap.size → Below B w0 w → Below B w0 w'
theorem ErrAt.lt {w : World} {b k : Nat} (h : ErrAt w b k) : b < w.heap.size := by
 rcases Nat.lt_or_ge b w.heap.size with h1 | h1
 ·exact h1
 ·have := h.cell
  simp [World.cell?, Array.getElem?_eq_none h1] at this
theorem ErrAt.drew {w : World} {b k : Nat} (h : ErrAt w b k) : ErrAt w.drew b k := ⟨h.cell, h.free⟩
theorem ErrAt.below {w w' : World} {b k : Nat} (h : ErrAt w b k) (hb : Below w.heap.size w w') : ErrAt w' b k :=
 ⟨(hb.cell (p := ⟨b, 0, none⟩) h.lt).trans h.cell, (hb.frozen (p := ⟨b, 0, none⟩) h.lt).trans h.free⟩
theorem Ste.of_below {w w' : World} {b k : Nat} (h : ErrAt w b k) (hb : Below w.heap.size w w') : Ste w w' b k :=
 ⟨fun c o hc _ => hb.cell (p := ⟨c, o, none⟩) hc, fun c o hc => hb.frozen (p := ⟨c, o, none⟩) hc, h.below hb, hb.size, fun _ _ _ hB h0 => h0.trans (hb.mono hB)⟩
theorem Ste.refl {w : World} {b k : Nat} (h : ErrAt w b k) : Ste w w b k := Ste.of_below h (Below.refl _ _)
theorem Ste.trans {w v u : World} {b k j : Nat} (h : Ste w v b k) (g : Ste v u b j) : Ste w u b j :=
 ⟨fun c o hc hn => (g.cell c o (Nat.lt_of_lt_of_le hc h.size) hn).trans (h.cell c o hc hn), fun c o hc => (g.free c o (Nat.lt_of_lt_of_le hc h.size)).trans (h.free c o hc), g.err, Nat.le_trans h.size g.size,
  fun B w0 h1 h2 h3 => g.below B w0 h1 (Nat.le_trans h2 h.size) (h.below B w0 h1 h2 h3)⟩
theorem Ste.drew {w v : World} {b k : Nat} (h : Ste w v b k) : Ste w v.drew b k := ⟨h.cell, h.free, h.err.drew, h.size, fun B w0 h1 h2 h3 => (h.below B w0 h1 h2 h3).drew⟩
theorem Ste.of_drew {w v : World} {b k : Nat} (h : Ste w.drew v b k) : Ste w v b k := ⟨h.cell, h.free, h.err, h.size, fun B w0 h1 h2 h3 => h.below B w0 h1 h2 h3.drew⟩
theorem Ste.below_trans {w v u : World} {b k : Nat} (hb : Below w.heap.size w v) (h : Ste v u b k) : Ste w u b k :=
 ⟨fun c o hc hn => (h.cell c o (Nat.lt_of_lt_of_le hc hb.size) hn).trans (hb.cell (p := ⟨c, o, none⟩) hc), fun c o hc => (h.free c o (Nat.lt_of_lt_of_le hc hb.size)).trans (hb.frozen (p := ⟨c, o, none⟩) hc), h.err, Nat.le_trans hb.size h.size,
  fun B w0 h1 h2 h3 => h.below B w0 h1 (Nat.le_trans h2 hb.size) (h3.trans (hb.mono (by omega)))⟩
theorem ErrAt.set {w : World} {b k : Nat} (h : ErrAt w b k) (j : Nat) : Ste w (w.setCell ⟨b, 0, none⟩ (errV j)) b j :=
 ⟨fun c o _ hn => World.cell?_setCell_other _ _ _ _ (fun e => hn (by injection e with e1 e2; exact ⟨e1.symm, e2.symm⟩)), fun c o _ => by rw [World.frozen?_setCell],
  ⟨World.cell?_setCell_same _ _ _ h.cell, by rw [World.frozen?_setCell]; exact h.free⟩, by simp [World.setCell], fun B w0 h1 _ h3 => h3.setCell (p := ⟨b, 0, none⟩) h1 _⟩
theorem Ste.but {w v u : World} {b k c : Nat} (h : Ste w v b k) (g : But1 v u c) (hc : w.heap.size ≤ c) (hb : b < w.heap.size) : Ste w u b k :=
 ⟨fun d o hd hn => (g.1 ⟨d, o, none⟩ (by show d ≠ c; omega)).1.trans (h.cell d o hd hn), fun d o hd => (g.1 ⟨d, o, none⟩ (by show d ≠ c; omega)).2.trans (h.free d o hd),
  ⟨(g.1 ⟨b, 0, none⟩ (by show b ≠ c; omega)).1.trans h.err.cell, (g.1 ⟨b, 0, none⟩ (by show b ≠ c; omega)).2.trans h.err.free⟩, by rw [g.2.2]; exact h.size, fun B w0 h1 h2 h3 => g.2.1 B w0 (by omega) (h.below B w0 h1 h2 h3)⟩
theorem IntAt.ste {w w' : World} {b c k n : Nat} {s : Bool} (h : IntAt w c s n) (g : Ste w w' b k) (hc : c < w.heap.size) (hne : c ≠ b) : IntAt w' c s n :=
 ⟨(g.cell c 0 hc (fun e => hne e.1)).trans h.sign, (g.free c 0 hc).trans h.free, fun i hi => ⟨(g.cell c (1 + i) hc (fun e => hne e.1)).trans (h.words i hi).1, (g.free c (1 + i) hc).trans (h.words i hi).2⟩⟩
def kept (k j : Nat) : Nat := if k = 0 then j else k
theorem errV_one (j : Nat) : errV j = .nilIface ∨ ∃ v, errV j = .iface 35 v := by
 by_cases h : j = 0
 ·subst h; exact .inl rfl
 ·exact .inr ⟨_, errV_pos h⟩
set_option maxHeartbeats 2000000 in
theorem keep_run (b k j : Nat) (w : World) (h : Hid (ErrAt w b k)) :
  Calls Tryz.prog 195 #[.pointer (some ⟨b, 0, none⟩), errV j] w fun e w' => e = .returned (.tuple #[]) ∧ Ste w w' b (kept k j) := by
 by_cases hk : k = 0
 ·subst hk
  have HF := Lib.hid (failed_zero b w h)
  have h1 : w.cell? ⟨b, 0, none⟩ = some .nilIface := h.out.cell
  have h2 := h.out.free
  have HS := Lib.hid (h.out.set j)
  have hj := errV_one j
  generalize errV j = v at *
  rcases hj with rfl | ⟨x, rfl⟩
  all_goals
   go_enter Tryz.func195, Tryz.ntmps195
   go_wp2_with fail
   refine HF.out.mono ?_
   rintro e w1 ⟨rfl, rfl⟩
   go_wp2_with fail
   go_end0
   exact ⟨rfl, HS.out⟩
 ·have HF := Lib.hid (failed_pos b k hk w h)
  have HS : Hid (Ste w w b (kept k j)) := by rw [kept, if_neg hk]; exact Ste.refl h.out
  clear hk
  generalize errV j = v
  go_enter Tryz.func195, Tryz.ntmps195
  go_wp2_with fail
  refine HF.out.mono ?_
  rintro e w1 ⟨rfl, rfl⟩
  go_wp2_with fail
  go_end0
  exact ⟨rfl, HS.out⟩
set_option maxRecDepth 100000 in
set_option maxHeartbeats 4000000 in
theorem quotient_run (s : Bool) (n : Nat) (t : Bool) (m : Nat) (w : World) (hn : Hid (Fits n)) (hm : Hid (Fits m)) (hm0 : 0 < m) :
  Calls Tryz.prog 239 #[intV s n, intV t m] w fun e w' => e = .returned (.tuple #[intV (sgn (s != t) (n / m)) (n / m), .nilIface]) ∧ Below w.heap.size w w' := by
 obtain ⟨S, hS⟩ : ∃ S, w.heap.size = S := ⟨_, rfl⟩
 obtain ⟨W, hW⟩ : ∃ W, ((w.alloc (boxI s n 92)).alloc (boxI t m 92)).alloc (boxIZ 92) = W := ⟨_, rfl⟩
 have T := three_ints w s n t m 92 92 92
 rw [hW, hS] at T
 have HT := Lib.hid T
 obtain ⟨⟨a0, b0⟩, ⟨a1, b1⟩, ⟨a2, b2⟩, ⟨a3, b3⟩, ⟨a4, b4⟩, ⟨a5, b5⟩, ⟨a6, b6⟩, ⟨a7, b7⟩, ⟨a8, b8⟩⟩ := T.1.nine
 obtain ⟨⟨c0, d0⟩, ⟨c1, d1⟩, ⟨c2, d2⟩, ⟨c3, d3⟩, ⟨c4, d4⟩, ⟨c5, d5⟩, ⟨c6, d6⟩, ⟨c7, d7⟩, ⟨c8, d8⟩⟩ := T.2.1.nine
 clear T
 rw [hS]
 have HC := Lib.hid (fun W => Div_pos s n t m W hn hm hm0)
 obtain ⟨q, hq⟩ : ∃ q, n / m = q := ⟨_, rfl⟩
 obtain ⟨r, hr⟩ : ∃ r, n % m = r := ⟨_, rfl⟩
 rw [hq, hr] at HC
 rw [hq]
 obtain ⟨z, hz⟩ : ∃ z, sgn (s != t) q = z := ⟨_, rfl⟩
 obtain ⟨y, hy⟩ : ∃ y, sgn s r = y := ⟨_, rfl⟩
 rw [hz, hy] at HC
 rw [hz]
 clear hz hy hq hr hn hm hm0
 unfold intV at HC ⊢
 go_enter Tryz.func239, Tryz.ntmps239
 go_wp2_with fail
 refine (HC.out _).mono ?_
 rintro e w1 ⟨rfl, hw1⟩
 have hWs : W.heap.size = S + 1 + 1 + 1 := HT.out.2.2.2.2
 have I3 := HT.out.2.2.1.keep hw1 (by omega)
 have B1 : Below S w w1 := HT.out.2.2.2.1.trans (hw1.mono (by omega))
 have z1 : S + 1 + 1 + 1 ≤ w1.heap.size := by have := hw1.size; omega
 have HJ3 := Lib.hid ((I3.alloc (by omega) (boxI z q 92)).alloc (by simp; omega) (boxI y r 92))
 have HB2 : Hid (Below S w ((w1.alloc (boxI z q 92)).alloc (boxI y r 92))) := (B1.alloc (by omega) _).alloc (by simp; omega) _
 have P2 := (two_ints w1 z q y r 92 92)
 obtain ⟨wx, hwx⟩ : ∃ wx, (w1.alloc (boxI z q 92)).alloc (boxI y r 92) = wx := ⟨_, rfl⟩
 obtain ⟨R, hR⟩ : ∃ R, w1.heap.size = R := ⟨_, rfl⟩
 rw [hwx] at HJ3 HB2 P2
 rw [hR] at P2
 clear hw1 HT hW HC hWs I3 B1 a0 a1 a2 a3 a4 a5 a6 a7 a8 b0 b1 b2 b3 b4 b5 b6 b7 b8 c0 c1 c2 c3 c4 c5 c6 c7 c8 d0 d1 d2 d3 d4 d5 d6 d7 d8
 go_upto_region 2 with fail
 obtain ⟨⟨a0, b0⟩, ⟨a1, b1⟩, ⟨a2, b2⟩, ⟨a3, b3⟩, ⟨a4, b4⟩, ⟨a5, b5⟩, ⟨a6, b6⟩, ⟨a7, b7⟩, ⟨a8, b8⟩⟩ := P2.1.nine
 obtain ⟨⟨c0, d0⟩, ⟨c1, d1⟩, ⟨c2, d2⟩, ⟨c3, d3⟩, ⟨c4, d4⟩, ⟨c5, d5⟩, ⟨c6, d6⟩, ⟨c7, d7⟩, ⟨c8, d8⟩⟩ := HJ3.out.nine
 clear P2 hwx hR
 go_wp2_with fail
 refine bodyPost_ret (v := .tuple #[intV z q, .nilIface]) (by rw [results_cell_tmp rfl]; go_simp; try rfl) rfl ⟨rfl, ?_⟩
 exact (st9_but wx (S + 1 + 1) z q).2.1 S w (by omega) HB2.out
end Go.Proofs.YtgkhjeefcflmcaaGreatDoor
namespace Go.Proofs.YtgkhjeefcflmcaaGreatDoor
open Go.RowKit Go.Sort
def Enters (f : Nat) : Prop := ∀ (args : Array Value) (w : World), (callFunc f args).run Tryz.prog w = .ok (.enter f args) w
theorem enters_of {f : FuncId} {fn : Func} {c : Code} (hf : Tryz.prog.funcs[f]? = some fn) (hname : (fn.name == "runtime.NumGoroutine") = false) (hb : fn.body = some c) : Enters f := fun args w => by
 have h1 : fn.name ≠ "runtime.NumGoroutine" := by simpa using hname
 simp [callFunc, hf, h1, hb]
theorem enters_Mul : Enters 193 := enters_of Tryz.func193 (by kernel_rfl) rfl
theorem enters_quotient : Enters 239 := enters_of Tryz.func239 (by kernel_rfl) rfl
abbrev fnV (f : Nat) : Value := .func (.func f) #[] #[]
set_option maxRecDepth 100000 in
set_option maxHeartbeats 4000000 in
theorem do_past (f b k : Nat) (hk : k ≠ 0) (s : Bool) (n : Nat) (t : Bool) (m : Nat) (w : World) (h : Hid (ErrAt w b k)) :
  Calls Tryz.prog 192 #[.pointer (some ⟨b, 0, none⟩), fnV f, intV s n, intV t m] w fun e w' => e = .returned (intV false 0) ∧ Ste w w' b k := by
 have HB : Hid (∀ o1 o2 o3 o4 : Obj, Below w.heap.size w ((((w.alloc o1).alloc o2).alloc o3).alloc o4)) := fun o1 o2 o3 o4 => (((below_alloc w o1).alloc (by simp) o2).alloc (by simp; omega) o3).alloc (by simp; omega) o4
 have HE : Hid (∀ o1 o2 o3 o4 : Obj, ErrAt ((((w.alloc o1).alloc o2).alloc o3).alloc o4) b k) := fun o1 o2 o3 o4 => h.out.below (HB.out o1 o2 o3 o4)
 have HS : Hid (∀ o1 o2 o3 o4 : Obj, Ste w ((((w.alloc o1).alloc o2).alloc o3).alloc o4) b k) := fun o1 o2 o3 o4 => Ste.of_below h.out (HB.out o1 o2 o3 o4)
 have h0 : intV false 0 = .agg #[.bool false, .int .u64 0, .int .u64 0, .int .u64 0, .int .u64 0, .int .u64 0, .int .u64 0, .int .u64 0, .int .u64 0] := intV_small (by decide) false
 rw [h0]
 clear h0 h HB
 unfold intV
 go_enter Tryz.func192, Tryz.ntmps192
 go_wp2_with fail
 refine (failed_pos b k hk _ (HE.out _ _ _ _)).mono ?_
 rintro e w1 ⟨rfl, rfl⟩
 go_wp2_with fail
 refine bodyPost_ret (v := .agg #[.bool false, .int .u64 0, .int .u64 0, .int .u64 0, .int .u64 0, .int .u64 0, .int .u64 0, .int .u64 0, .int .u64 0]) (by rw [results_cell1 rfl]; go_simp) rfl ⟨rfl, ?_⟩
 exact HS.out _ _ _ _
set_option maxRecDepth 100000 in
set_option maxHeartbeats 4000000 in
theorem do_first (f b j : Nat) (s : Bool) (n : Nat) (t : Bool) (m : Nat) (z : Bool) (r : Nat) (w : World) (h : Hid (ErrAt w b 0))
  (hcf : Hid (Enters f)) (hop : Hid (∀ W, Calls Tryz.prog f #[intV s n, intV t m] W fun e w' => e = .returned (.tuple #[intV z r, errV j]) ∧ Below W.heap.size W w')) :
  Calls Tryz.prog 192 #[.pointer (some ⟨b, 0, none⟩), fnV f, intV s n, intV t m] w fun e w' => e = .returned (intV z r) ∧ Ste w w' b j := by
 obtain ⟨S, hS⟩ : ∃ S, w.heap.size = S := ⟨_, rfl⟩
 obtain ⟨W, hW⟩ : ∃ W, (((w.alloc (boxI s n 92)).alloc (boxI t m 92)).alloc (boxIZ 92)).alloc (boxIZ 92) = W := ⟨_, rfl⟩
 have T := four_ints w s n t m 92 92 92 92
 rw [hW] at T
 have HE := Lib.hid (h.out.below T.2.2.2.2.1)
 have hbl := h.out.lt
 rw [hS] at T hbl
 have HT := Lib.hid T
 obtain ⟨⟨a0, b0⟩, ⟨a1, b1⟩, ⟨a2, b2⟩, ⟨a3, b3⟩, ⟨a4, b4⟩, ⟨a5, b5⟩, ⟨a6, b6⟩, ⟨a7, b7⟩, ⟨a8, b8⟩⟩ := T.1.nine
 obtain ⟨⟨c0, d0⟩, ⟨c1, d1⟩, ⟨c2, d2⟩, ⟨c3, d3⟩, ⟨c4, d4⟩, ⟨c5, d5⟩, ⟨c6, d6⟩, ⟨c7, d7⟩, ⟨c8, d8⟩⟩ := T.2.1.nine
 have HV := errV_one j
 have HKJ := fun W h => Lib.hid (keep_run b 0 j W h)
 rw [show kept 0 j = j from rfl] at HKJ
 have HK := Lib.hid HKJ
 clear T h HKJ
 have HSw : Hid (w.heap.size = S) := hS
 obtain ⟨v, hv⟩ : ∃ v, errV j = v := ⟨_, rfl⟩
 rw [hv] at HV hop HK
 clear hv
 unfold intV at hop ⊢
 have hen : ∀ (args : Array Value) (w : World), (callFunc f args).run Tryz.prog w = .ok (.enter f args) w := hcf.out
 go_enter Tryz.func192, Tryz.ntmps192
 go_wp2_with fail
 refine (failed_zero b W HE).mono ?_
 rintro e w0 ⟨rfl, rfl⟩
 go_wp2_with fail
 refine (hop.out _).mono ?_
 rintro e w1 ⟨rfl, hw1⟩
 have hWs : W.heap.size = S + 1 + 1 + 1 + 1 := HT.out.2.2.2.2.2
 have I3 := HT.out.2.2.1.keep hw1 (by omega)
 have E1 := HE.out.below hw1
 have B1 : Below S w w1 := HT.out.2.2.2.2.1.trans (hw1.mono (by omega))
 have z1 : S + 1 + 1 + 1 + 1 ≤ w1.heap.size := by have := hw1.size; omega
 have HJ3 := Lib.hid (I3.alloc (by omega) (boxI z r 92))
 have HB2 : Hid (Below S w (w1.alloc (boxI z r 92))) := B1.alloc (by omega) _
 have HE2 := Lib.hid (E1.below (below_alloc w1 (boxI z r 92)))
 have HP := Lib.hid (IntAt.new w1 z r 92)
 have hs2 : (w1.alloc (boxI z r 92)).heap.size = w1.heap.size + 1 := by simp
 obtain ⟨wx, hwx⟩ : ∃ wx, w1.alloc (boxI z r 92) = wx := ⟨_, rfl⟩
 obtain ⟨R, hR⟩ : ∃ R, w1.heap.size = R := ⟨_, rfl⟩
 rw [hwx] at HJ3 HB2 HE2 HP hs2
 rw [hR] at HP z1 hs2
 have Hs2 := Lib.hid hs2
 clear hw1 HT hW hop hWs I3 B1 E1 hs2 HE a0 a1 a2 a3 a4 a5 a6 a7 a8 b0 b1 b2 b3 b4 b5 b6 b7 b8 c0 c1 c2 c3 c4 c5 c6 c7 c8 d0 d1 d2 d3 d4 d5 d6 d7 d8
 go_wp2_with fail
 refine (HK.out _ HE2).mono ?_
 rintro e w2 ⟨rfl, hw2⟩
 have J3 := HJ3.out.ste hw2 (by rw [Hs2.out]; omega) (by omega)
 have J4 := HP.out.ste hw2 (by rw [Hs2.out]; omega) (by omega)
 have HSt : Hid (Ste w w2 b j) := Ste.below_trans (by rw [HSw.out]; exact HB2.out) hw2
 obtain ⟨⟨a0, b0⟩, ⟨a1, b1⟩, ⟨a2, b2⟩, ⟨a3, b3⟩, ⟨a4, b4⟩, ⟨a5, b5⟩, ⟨a6, b6⟩, ⟨a7, b7⟩, ⟨a8, b8⟩⟩ := J4.nine
 obtain ⟨⟨c0, d0⟩, ⟨c1, d1⟩, ⟨c2, d2⟩, ⟨c3, d3⟩, ⟨c4, d4⟩, ⟨c5, d5⟩, ⟨c6, d6⟩, ⟨c7, d7⟩, ⟨c8, d8⟩⟩ := J3.nine
 clear hw2 hwx hR J3 J4 HK HP HE2 HB2 HJ3 hS
 go_wp2_with fail
 refine bodyPost_ret (v := intV z r) (by rw [results_cell1 rfl]; go_simp; try rfl) rfl ⟨rfl, ?_⟩
 exact HSt.out.but (st9_but w2 (S + 1 + 1) z r) (by rw [HSw.out]; omega) (by rw [HSw.out]; exact hbl)
end Go.Proofs.YtgkhjeefcflmcaaGreatDoor
