/-
  Stage 7: limb's divide walked.
-/
import Derived.Test.YtgkhjeefcflmcaaGreatDoorMt06
import Derived.ChangeKeysEq
import Derived.Laws.StructEq
import Derived.Test.YtgkhjeefcflmcaaGreatDoorMt01
namespace Go.Proofs.YtgkhjeefcflmcaaGreatDoor
open Go.RowKit Go.Sort
def divW (w : World) (a b : Nat) : World := (((w.alloc (boxO a 217)).alloc (boxO b 217)).alloc (boxZ 217)).alloc (boxZ 217)
theorem four_boxes (w : World) (a b : Nat) : WordsAt (divW w a b) w.heap.size 0 a 8 ∧ WordsAt (divW w a b) (w.heap.size + 1) 0 b 8 ∧ WordsAt (divW w a b) (w.heap.size + 1 + 1) 0 0 8 ∧ WordsAt (divW w a b) (w.heap.size + 1 + 1 + 1) 0 0 8 ∧ Below w.heap.size w (divW w a b) ∧ (divW w a b).heap.size = w.heap.size + 1 + 1 + 1 + 1 := by
 obtain ⟨h1, h2, h3, h4⟩ := three_boxes w a b 217 217 217
 have s3 : (((w.alloc (boxO a 217)).alloc (boxO b 217)).alloc (boxZ 217)).heap.size = w.heap.size + 1 + 1 + 1 := by simp
 have h5 := WordsAt.zero (((w.alloc (boxO a 217)).alloc (boxO b 217)).alloc (boxZ 217)) 217
 rw [s3] at h5
 unfold divW
 exact ⟨h1.alloc (by omega) _, h2.alloc (by omega) _, h3.alloc (by omega) _, h5, h4.alloc (by omega) _, by simp⟩
theorem WordsF.set8 {w : World} {b : Nat} {f g : Nat → Nat} (h : WordsF w b 0 f 8) :
  WordsF ((((((((w.setCell ⟨b, 0, none⟩ (.int .u64 (g 0 : Int))).setCell ⟨b, 1, none⟩ (.int .u64 (g 1 : Int))).setCell ⟨b, 2, none⟩ (.int .u64 (g 2 : Int))).setCell ⟨b, 3, none⟩ (.int .u64 (g 3 : Int))).setCell ⟨b, 4, none⟩ (.int .u64 (g 4 : Int))).setCell ⟨b, 5, none⟩ (.int .u64 (g 5 : Int))).setCell ⟨b, 6, none⟩ (.int .u64 (g 6 : Int))).setCell ⟨b, 7, none⟩ (.int .u64 (g 7 : Int))) b 0 g 8 := by
 have h8 := (((((((h.upd (i := 0) (by decide) (g 0)).upd (i := 1) (by decide) (g 1)).upd (i := 2) (by decide) (g 2)).upd (i := 3) (by decide) (g 3)).upd (i := 4) (by decide) (g 4)).upd (i := 5) (by decide) (g 5)).upd (i := 6) (by decide) (g 6)).upd (i := 7) (by decide) (g 7)
 simp only [Nat.zero_add] at h8
 refine h8.ext fun t ht => ?_
 rcases t with _ | _ | _ | _ | _ | _ | _ | _ | t
 all_goals first | rfl | omega
theorem But1.set8 (w : World) (b : Nat) (v0 v1 v2 v3 v4 v5 v6 v7 : Value) :
  But1 w ((((((((w.setCell ⟨b, 0, none⟩ v0).setCell ⟨b, 1, none⟩ v1).setCell ⟨b, 2, none⟩ v2).setCell ⟨b, 3, none⟩ v3).setCell ⟨b, 4, none⟩ v4).setCell ⟨b, 5, none⟩ v5).setCell ⟨b, 6, none⟩ v6).setCell ⟨b, 7, none⟩ v7) b :=
 (((((((But1.setCell w b 0 v0).trans (But1.setCell _ b 1 v1)).trans (But1.setCell _ b 2 v2)).trans (But1.setCell _ b 3 v3)).trans (But1.setCell _ b 4 v4)).trans (But1.setCell _ b 5 v5)).trans (But1.setCell _ b 6 v6)).trans (But1.setCell _ b 7 v7)
abbrev box9 (n : Nat) (T : TypeId) : Obj := .cells #[.int .u64 (wd n 0 : Int), .int .u64 (wd n 1 : Int), .int .u64 (wd n 2 : Int), .int .u64 (wd n 3 : Int), .int .u64 (wd n 4 : Int), .int .u64 (wd n 5 : Int), .int .u64 (wd n 6 : Int), .int .u64 (wd n 7 : Int), .int .u64 (wd n 8 : Int)] T
theorem WordsAt.new9 (w : World) (n : Nat) (T : TypeId) : WordsAt (w.alloc (box9 n T)) w.heap.size 0 n 9 := by
 intro i hi
 rcases i with _ | _ | _ | _ | _ | _ | _ | _ | _ | i
 all_goals first | exact ⟨World.cell?_alloc_at _ _ _ _ rfl, World.frozen?_alloc_at _ _ _ _ rfl⟩ | omega
set_option maxRecDepth 100000 in
set_option maxHeartbeats 8000000 in
theorem divide_run (a b : Nat) (w : World) (ha : Hid (Fits a)) (hb : Hid (Fits b)) (hb0 : 0 < b) :
  Calls Tryz.prog 237 #[wordsV a, wordsV b] w fun e w' => e = .returned (.tuple #[wordsV (a / b), wordsV (a % b)]) ∧ Below w.heap.size w w' := by
 obtain ⟨S, hS⟩ : ∃ S, w.heap.size = S := ⟨_, rfl⟩
 obtain ⟨n, hn⟩ : ∃ n, wl b = n := ⟨_, rfl⟩
 have hn8 : n ≤ 8 := by rw [← hn]; exact wl_le hb.out
 obtain ⟨k, hk⟩ : ∃ k, n = k + 1 := by
  have : n ≠ 0 := fun e => by rw [e] at hn; have := (nlen_eq_zero (B := 18446744073709551616) (by decide)).1 hn; omega
  exact ⟨n - 1, by omega⟩
 obtain ⟨n1, n2, n3, n4, _⟩ := norm_shift (b := b) (n := k) (by rw [hn, hk])
 obtain ⟨x, hx⟩ : ∃ x, wd b k = x := ⟨_, rfl⟩
 have hxl : x ≤ 18446744073709551615 := by have := wd_lt b k; omega
 rw [hx] at n1 n2 n3 n4
 obtain ⟨s, hs⟩ : ∃ s, 64 - nlen 2 x = s := ⟨_, rfl⟩
 rw [hs] at n3 n4
 have hs64 : s < 64 := by omega
 obtain ⟨D, hD⟩ : ∃ D, b * 2 ^ s = D := ⟨_, rfl⟩
 rw [hD] at n3 n4
 have HC1 := Lib.hid (fun W => length_run b W hb)
 rw [hn] at HC1
 have HC2 : Hid (∀ W, Calls Tryz.prog 248 #[.int .u64 (x : Int)] W fun e w' => e = .returned (.int .i64 (s : Int)) ∧ w' = W) := fun W => by
  have := Tryz.bits_LeadingZeros64 (x : Int) W (by omega) (by omega)
  rw [Int.toNat_natCast, Lib.bitLen, bitLen_eq _ _ (show x < 2 ^ 64 by omega), show (64 : Int) - (nlen 2 x : Int) = (s : Int) by omega] at this
  exact this
 have HC3 := Lib.hid (fun W => shiftLeft_run b s W (by omega))
 have HC4 := Lib.hid (fun W => widen_run a s W hs64 ha.out)
 have HC5 := Lib.hid (fun W => length_run a W ha)
 obtain ⟨la, hla⟩ : ∃ la, wl a = la := ⟨_, rfl⟩
 rw [hla] at HC5
 have hla8 : la ≤ 8 := by rw [← hla]; exact wl_le ha.out
 obtain ⟨A, hA⟩ : ∃ A, a * 2 ^ s = A := ⟨_, rfl⟩
 rw [hD] at HC3
 rw [hA] at HC4
 have hkz : (n : Int) - 1 = (k : Int) := by omega
 have hkw : IntKind.i64.wrap (k : Int) = (k : Int) := by rw [IntKind.wrap_i64]; omega
 have hk8 : (k : Int) < 8 := by omega
 obtain ⟨W, hW⟩ : ∃ W, divW w a b = W := ⟨_, rfl⟩
 have T := four_boxes w a b
 rw [hW, hS] at T
 have HX := Lib.hid hx
 have HT := Lib.hid T
 have HN3 := Lib.hid n3
 have HN4 := Lib.hid n4
 have HKN := Lib.hid hk
 have HDD := Lib.hid hD
 have HAA := Lib.hid hA
 have HLA := Lib.hid hla
 have HLN := Lib.hid hn
 unfold divW at hW
 obtain ⟨⟨c0, d0⟩, ⟨c1, d1⟩, ⟨c2, d2⟩, ⟨c3, d3⟩, ⟨c4, d4⟩, ⟨c5, d5⟩, ⟨c6, d6⟩, ⟨c7, d7⟩⟩ := T.2.1.eight
 clear T n1 n2 n3 n4 hx hs hD hA hla hn hk
 unfold wordsV at HC1 HC3 HC5 ⊢
 unfold wordsV words9 at HC4
 rw [hS]
 go_enter Tryz.func237, Tryz.ntmps237
 go_wp2_with fail
 refine (HC1.out _).mono ?_
 rintro e w1 ⟨rfl, hw1⟩
 have k4 : ∀ x, x < S + 1 + 1 + 1 + 1 → x < W.heap.size := fun x hx => Nat.lt_of_lt_of_eq hx HT.out.2.2.2.2.2.symm
 have A1 := Lib.hid (HT.out.1.keep hw1 (k4 _ (by omega)))
 have B1 := Lib.hid (HT.out.2.1.keep hw1 (k4 _ (by omega)))
 have Q1 := Lib.hid (HT.out.2.2.1.keep hw1 (k4 _ (by omega)))
 have M1 := Lib.hid (HT.out.2.2.2.1.keep hw1 (k4 _ (by omega)))
 have W1 : Hid (Below S w w1) := HT.out.2.2.2.2.1.trans (hw1.mono (Nat.le_of_lt (k4 _ (by omega))))
 have z1 : S + 1 + 1 + 1 + 1 ≤ w1.heap.size := by have := hw1.size; rw [HT.out.2.2.2.2.2] at this; exact this
 clear hw1 k4 HT c0 c1 c2 c3 c4 c5 c6 c7 d0 d1 d2 d3 d4 d5 d6 d7 hW
 obtain ⟨⟨c0, d0⟩, ⟨c1, d1⟩, ⟨c2, d2⟩, ⟨c3, d3⟩, ⟨c4, d4⟩, ⟨c5, d5⟩, ⟨c6, d6⟩, ⟨c7, d7⟩⟩ := B1.out.eight
 have ck := (B1.out k (by omega)).1
 rw [Nat.zero_add, HX.out] at ck
 go_wp2_with fail
 refine (HC2.out _).mono ?_
 rintro e w2 ⟨rfl, rfl⟩
 go_wp2_with fail
 refine (HC3.out _).mono ?_
 rintro e w3 ⟨rfl, hw3⟩
 have A3 := Lib.hid (A1.out.keep hw3 (by omega))
 have B3 := Lib.hid (B1.out.keep hw3 (by omega))
 have Q3 := Lib.hid (Q1.out.keep hw3 (by omega))
 have M3 := Lib.hid (M1.out.keep hw3 (by omega))
 have W3 : Hid (Below S w w3) := W1.out.trans (hw3.mono (by omega))
 have z3 : S + 1 + 1 + 1 + 1 ≤ w3.heap.size := Nat.le_trans z1 hw3.size
 clear hw3 A1 B1 Q1 M1 W1 c0 c1 c2 c3 c4 c5 c6 c7 d0 d1 d2 d3 d4 d5 d6 d7 ck HC1 HC2 HC3
 obtain ⟨⟨c0, d0⟩, ⟨c1, d1⟩, ⟨c2, d2⟩, ⟨c3, d3⟩, ⟨c4, d4⟩, ⟨c5, d5⟩, ⟨c6, d6⟩, ⟨c7, d7⟩⟩ := B3.out.eight
 go_upto_region 4 with fail
 have N4 := But1.set8 w3 (S + 1) (.int .u64 (wd D 0 : Int)) (.int .u64 (wd D 1 : Int)) (.int .u64 (wd D 2 : Int)) (.int .u64 (wd D 3 : Int)) (.int .u64 (wd D 4 : Int)) (.int .u64 (wd D 5 : Int)) (.int .u64 (wd D 6 : Int)) (.int .u64 (wd D 7 : Int))
 have B4 := Lib.hid (B3.out.set8 (g := wd D))
 have A4 := Lib.hid (A3.out.but N4 (by omega))
 have Q4 := Lib.hid (Q3.out.but N4 (by omega))
 have M4 := Lib.hid (M3.out.but N4 (by omega))
 have W4 := Lib.hid (N4.2.1 S w (by omega) W3.out)
 have z4 := z3
 rw [← N4.2.2] at z4
 clear N4 A3 B3 Q3 M3 W3 z3 c0 c1 c2 c3 c4 c5 c6 c7 d0 d1 d2 d3 d4 d5 d6 d7
 generalize ((((((((w3.setCell ⟨S + 1, 0, none⟩ (.int .u64 (wd D 0 : Int))).setCell ⟨S + 1, 1, none⟩ (.int .u64 (wd D 1 : Int))).setCell ⟨S + 1, 2, none⟩ (.int .u64 (wd D 2 : Int))).setCell ⟨S + 1, 3, none⟩ (.int .u64 (wd D 3 : Int))).setCell ⟨S + 1, 4, none⟩ (.int .u64 (wd D 4 : Int))).setCell ⟨S + 1, 5, none⟩ (.int .u64 (wd D 5 : Int))).setCell ⟨S + 1, 6, none⟩ (.int .u64 (wd D 6 : Int))).setCell ⟨S + 1, 7, none⟩ (.int .u64 (wd D 7 : Int))) = w4 at *
 obtain ⟨⟨c0, d0⟩, ⟨c1, d1⟩, ⟨c2, d2⟩, ⟨c3, d3⟩, ⟨c4, d4⟩, ⟨c5, d5⟩, ⟨c6, d6⟩, ⟨c7, d7⟩⟩ := A4.out.eight
 go_wp2_with fail
 refine (HC4.out _).mono ?_
 rintro e w5 ⟨rfl, hw5⟩
 have A5 := Lib.hid (A4.out.keep hw5 (by omega))
 have B5 := Lib.hid (B4.out.keep hw5 (by omega))
 have Q5 := Lib.hid (Q4.out.keep hw5 (by omega))
 have M5 := Lib.hid (M4.out.keep hw5 (by omega))
 have W5 : Hid (Below S w w5) := W4.out.trans (hw5.mono (by omega))
 have z5 : S + 1 + 1 + 1 + 1 ≤ w5.heap.size := Nat.le_trans z4 hw5.size
 clear hw5 A4 B4 Q4 M4 W4 z4 c0 c1 c2 c3 c4 c5 c6 c7 d0 d1 d2 d3 d4 d5 d6 d7 HC4
 obtain ⟨R, hR⟩ : ∃ R, w5.heap.size = R := ⟨_, rfl⟩
 go_upto_region 5 with fail
 have R6 := Lib.hid (WordsAt.new9 w5 A 306)
 have A6 := Lib.hid (A5.out.alloc (by omega) (box9 A 306))
 have B6 := Lib.hid (B5.out.alloc (by omega) (box9 A 306))
 have Q6 := Lib.hid (Q5.out.alloc (by omega) (box9 A 306))
 have M6 := Lib.hid (M5.out.alloc (by omega) (box9 A 306))
 have W6 : Hid (Below S w (w5.alloc (box9 A 306))) := W5.out.alloc (by omega) _
 have z6 : (w5.alloc (box9 A 306)).heap.size = R + 1 := by simp [hR]
 rw [hR] at R6 z5
 clear A5 B5 Q5 M5 W5 hR
 obtain ⟨w6, hw6⟩ : ∃ w6, w5.alloc (box9 A 306) = w6 := ⟨_, rfl⟩
 rw [hw6] at R6 A6 B6 Q6 M6 W6 z6
 have hw6' : w5.alloc (.cells #[.int .u64 (wd A 0 : Int), .int .u64 (wd A 1 : Int), .int .u64 (wd A 2 : Int), .int .u64 (wd A 3 : Int), .int .u64 (wd A 4 : Int), .int .u64 (wd A 5 : Int), .int .u64 (wd A 6 : Int), .int .u64 (wd A 7 : Int), .int .u64 (wd A 8 : Int)] 306) = w6 := hw6
 rw [hw6']
 clear hw6 hw6'
 obtain ⟨⟨c0, d0⟩, ⟨c1, d1⟩, ⟨c2, d2⟩, ⟨c3, d3⟩, ⟨c4, d4⟩, ⟨c5, d5⟩, ⟨c6, d6⟩, ⟨c7, d7⟩⟩ := A6.out.eight
 go_wp2_with fail
 refine (HC5.out _).mono ?_
 rintro e w7 ⟨rfl, hw7⟩
 have B7 := Lib.hid (B6.out.keep hw7 (by omega))
 have Q7 := Lib.hid (Q6.out.keep hw7 (by omega))
 have M7 := Lib.hid (M6.out.keep hw7 (by omega))
 have R7 := Lib.hid (R6.out.keep hw7 (by omega))
 have W7 : Hid (Below S w w7) := W6.out.trans (hw7.mono (by omega))
 have Z7 : Hid (S + 1 + 1 + 1 + 1 ≤ w7.heap.size) := by have := hw7.size; show _ ≤ _; omega
 clear hw7 A6 B6 Q6 M6 R6 W6 z6 c0 c1 c2 c3 c4 c5 c6 c7 d0 d1 d2 d3 d4 d5 d6 d7 HC5
 have hlaz : IntKind.i64.wrap ((la : Int) - (n : Int)) = (la : Int) - (n : Int) := by rw [IntKind.wrap_i64]; omega
 have HD0 : Hid (0 < D) := by
  show 0 < D
  rw [← HDD.out]
  exact Nat.mul_pos hb0 (Nat.pow_pos (by decide))
 have HDk : Hid (18446744073709551616 ^ k * 9223372036854775808 ≤ D) := by
  have h1 := top_div HN3.out
  have h2 := Nat.div_mul_le_self D (18446744073709551616 ^ k)
  rw [h1] at h2
  exact Nat.le_trans (by rw [Nat.mul_comm]; exact Nat.mul_le_mul_right _ HN4.out) h2
 have hal : Hid (a < 18446744073709551616 ^ la) := by
  have := lt_nlen (B := 18446744073709551616) (by decide) a
  show _ < _
  rw [← HLA.out]
  exact this
 have HST : Hid (∀ j, a < 18446744073709551616 ^ (j + k) → A / 18446744073709551616 ^ j < D) := fun j hj => by
  have := start_lt (n := k) (b := b) (s := s) (j := j) (by rw [HDD.out]; exact HDk.out) (by omega) hj
  rwa [HAA.out, HDD.out] at this
 obtain ⟨j0, hj0, HJ0⟩ : ∃ j0 : Nat, (((la : Int) - (n : Int) = (j0 : Int) - 1 ∧ 0 < j0) ∨ ((la : Int) - (n : Int) < 0 ∧ j0 = 0)) ∧ Hid (la ≤ j0 + k ∧ j0 + n ≤ 9) := by
  have := HKN.out
  by_cases h : n ≤ la
  ·exact ⟨la - n + 1, .inl (by omega), by show _ ∧ _; omega⟩
  ·exact ⟨0, .inr (by omega), by show _ ∧ _; omega⟩
 have HS0 : Hid (A / 18446744073709551616 ^ j0 < D) := HST.out j0 (Nat.lt_of_lt_of_le hal.out (Nat.pow_le_pow_right (by decide) HJ0.out.1))
 have hn0 : 0 < n := by have := HKN.out; omega
 clear HST HDk hal
 go_wp2_with fail
 go_loopg [9] 10 (fun h s9 wr => ∃ (z : Int) (j : Nat) (f : Nat → Nat), s9 = .int .i64 z ∧ Hid (((z = (j : Int) - 1 ∧ 0 < j) ∨ (z < 0 ∧ j = 0)) ∧ j + n ≤ 9 ∧ j < h) ∧ Hid (WordsAt wr (S + 1) 0 D 8) ∧ Hid (WordsF wr (S + 1 + 1) 0 f 8) ∧ Hid (∀ t, j ≤ t → t < 8 → f t = wd (A / D) t) ∧ Hid (WordsAt wr (S + 1 + 1 + 1) 0 0 8) ∧ Hid (WordsAt wr R 0 (dvV A D j) 9) ∧ Hid (Below S w wr) ∧ Hid (S + 1 + 1 + 1 + 1 ≤ wr.heap.size))
 case atStart => exact ⟨(la : Int) - (n : Int), j0, wd 0, rfl, by show _ ∧ _ ∧ _; have := HJ0.out; exact ⟨hj0, this.2, by omega⟩, B7, Q7, fun t h1 _ => by
   rw [wd_zero]
   have : A / D < 18446744073709551616 ^ j0 := (Nat.div_lt_iff_lt_mul HD0.out).2 (by have := (Nat.div_lt_iff_lt_mul (Nat.pow_pos (by decide))).1 HS0.out; rwa [Nat.mul_comm] at this)
   exact (dig_high (Nat.lt_of_lt_of_le this (Nat.pow_le_pow_right (by decide) h1))).symm, M7, by rw [dvV_start HS0.out]; exact R7, W7, Z7⟩
 case round =>
  clear B7 Q7 M7 R7 W7 Z7 HS0 HJ0 hj0 hlaz
  obtain ⟨z, j, f, rfl, HJ, HB, HQ, HE, HM, HR, HW, HSZ⟩ := hrel
  by_cases hz : 0 ≤ z
  ·obtain ⟨i, hi⟩ : ∃ i, j = i + 1 := ⟨j - 1, by have := HJ.out.1; omega⟩
   have hzi : z = (i : Int) := by have := HJ.out.1; omega
   subst hzi
   subst hi
   obtain ⟨N, hN⟩ : ∃ N, n + 1 = N := ⟨_, rfl⟩
   obtain ⟨p, hp⟩ : ∃ p, i + n = p := ⟨_, rfl⟩
   obtain ⟨q, hq⟩ : ∃ q, p + 1 = q := ⟨_, rfl⟩
   have hj9 := HJ.out.2.1
   have HI9 : Hid (i + 1 + n ≤ 9) := hj9
   have hi8 : (i : Int) < 8 := by omega
   have hi8' : i < 8 := by omega
   have hpz : (i : Int) + (n : Int) = (p : Int) := by omega
   have hpw : IntKind.i64.wrap (p : Int) = (p : Int) := by rw [IntKind.wrap_i64]; omega
   have hqz : (p : Int) + 1 = (q : Int) := by omega
   have hqw : IntKind.i64.wrap (q : Int) = (q : Int) := by rw [IntKind.wrap_i64]; omega
   have hq9 : (q : Int) ≤ 9 := by omega
   have hiq : (i : Int) ≤ (q : Int) := by omega
   have hqi : q - i = N := by omega
   have hne : ¬ 9 = i := by omega
   have hnz8 : (n : Int) ≤ 8 := by omega
   have HN : Hid (N = n + 1) := hN.symm
   have cq := HQ.out i hi8'
   rw [Nat.zero_add] at cq
   obtain ⟨cq1, cq2⟩ := cq
   have hls := long_step (B := 18446744073709551616) (A := A) (D := D) (i := i) (by decide) HD0.out
   obtain ⟨V, hV⟩ : ∃ V, A / 18446744073709551616 ^ (i + 1) % D * 18446744073709551616 + dig 18446744073709551616 A i = V := ⟨_, rfl⟩
   rw [hV] at hls
   have hst := dvV_step A D i
   have hVd : dvV A D (i + 1) / 18446744073709551616 ^ i = V := hst.trans hV
   have hWN : Hid (WordsAt wr R i V N) := fun u hu => by
    have h1 := HR.out (i + u) (by omega)
    have h2 : wd (dvV A D (i + 1)) (i + u) = wd V u := by
     rw [← hVd]
     unfold wd
     rw [dig_div, Nat.add_comm i u]
    rw [h2, Nat.zero_add] at h1
    exact h1
   have hDn : Hid (D < 18446744073709551616 ^ n) := by show _ < _; rw [HKN.out]; exact HN3.out
   have hBn : Hid (WordsAt wr (S + 1) 0 D n) := fun u hu => HB.out u (by omega)
   have hTO := Lib.hid (takeOut_run R i (9 - i) (S + 1) 0 8 n N k V D wr.drew HKN HN hn8 hls.2.2 hDn HN4 (by omega) hWN hBn)
   obtain ⟨y, hy⟩ : ∃ y, V / D = y := ⟨_, rfl⟩
   rw [hy] at hTO hls
   have HLS := Lib.hid hls
   clear hls hV hst hVd hWN hBn hN hp hq hj9 hy
   go_wp2_with fail
   go_region_with (go_at_call 251; refine hTO.out.mono ?_; rintro e w8 ⟨rfl, hw8, hb8⟩; have HW8 := Lib.hid hw8; have HB8 := Lib.hid hb8; have cr1 := ((hb8.1 ⟨S + 1 + 1, i, none⟩ (fun e => by have := e.1; simp only [] at this; omega)).1).trans cq1; have cr2 := ((hb8.1 ⟨S + 1 + 1, i, none⟩ (fun e => by have := e.1; simp only [] at this; omega)).2).trans cq2; clear hw8 hb8)
   have HQ9 : Hid (WordsF (w8.setCell ⟨S + 1 + 1, i, none⟩ (.int .u64 (y : Int))) (S + 1 + 1) 0 (updF f i y) 8) := by
    have := (WordsF.butR (w := wr.drew) HQ.out HB8.out (by omega)).upd hi8' y
    rwa [Nat.zero_add] at this
   have HB9 : Hid (WordsAt (w8.setCell ⟨S + 1 + 1, i, none⟩ (.int .u64 (y : Int))) (S + 1) 0 D 8) := (WordsF.butR (w := wr.drew) HB.out HB8.out (by omega)).set ⟨S + 1 + 1, i, none⟩ _ (by show S + 1 + 1 ≠ S + 1; omega)
   have HM9 : Hid (WordsAt (w8.setCell ⟨S + 1 + 1, i, none⟩ (.int .u64 (y : Int))) (S + 1 + 1 + 1) 0 0 8) := (WordsF.butR (w := wr.drew) HM.out HB8.out (by omega)).set ⟨S + 1 + 1, i, none⟩ _ (by show S + 1 + 1 ≠ S + 1 + 1 + 1; omega)
   have HR9 : Hid (WordsAt (w8.setCell ⟨S + 1 + 1, i, none⟩ (.int .u64 (y : Int))) R 0 (dvV A D i) 9) := by
    have h1 := HW8.out
    rw [← HLS.out.2.1] at h1
    exact (dv_words (w := wr.drew) HN.out HD0.out (by rw [HKN.out]; exact HN3.out) HR.out h1 HB8.out).set ⟨S + 1 + 1, i, none⟩ _ (by show S + 1 + 1 ≠ R; omega)
   have HW9 : Hid (Below S w (w8.setCell ⟨S + 1 + 1, i, none⟩ (.int .u64 (y : Int)))) := (HB8.out.2.1 S w (by omega) HW.out.drew).setCell (p := ⟨S + 1 + 1, i, none⟩) (by show S ≤ S + 1 + 1; omega) _
   have HZ9 : Hid (S + 1 + 1 + 1 + 1 ≤ (w8.setCell ⟨S + 1 + 1, i, none⟩ (.int .u64 (y : Int))).heap.size) := by
    have h1 := HB8.out.2.2
    have h2 : wr.drew.heap.size = wr.heap.size := rfl
    have h3 := HSZ.out
    show _ ≤ _
    simp
    omega
   clear HQ HB HM HR HW HSZ HW8 HB8 cr1 cr2 cq1 cq2
   generalize w8.setCell ⟨S + 1 + 1, i, none⟩ (.int .u64 (y : Int)) = w9 at *
   go_wp2_with fail
   go_roundg (i + 1)
   case measure => have := HJ.out; omega
   case rel =>
    refine ⟨(i : Int) - 1, i, updF f i y, by go_num, ⟨?_, by have := HI9.out; omega, by omega⟩, HB9, HQ9, fun t ht ht2 => ?_, HM9, HR9, HW9, HZ9⟩
    ·rcases Nat.eq_zero_or_pos i with h | h
     ·exact .inr ⟨by omega, h⟩
     ·exact .inl ⟨rfl, h⟩
    ·by_cases e : t = i
     ·rw [e, updF_same]; exact HLS.out.1.symm
     ·rw [updF_other e]; exact HE.out t (by omega) ht2
  ·obtain rfl : j = 0 := by have := HJ.out.1; omega
   have hQ := HQ.out.ext (g := wd (A / D)) fun t ht => HE.out t (Nat.zero_le _) ht
   have hR := HR.out
   rw [dvV_zero] at hR
   obtain ⟨wp, hc1, X2, N1⟩ := copy_words wr.drew (S + 1 + 1 + 1) 0 R 0 8 9 8 9 _ _ HM.out hR 8 rfl
   have X3 := X2.ext (g := wd (A % D)) (fun t ht => by simp only [if_pos ht])
   have Q3 := hQ.but N1.of_drew (by omega)
   have W3 : Hid (Below S w wp) := N1.of_drew.2.1 S w (by omega) HW.out
   obtain ⟨⟨c0, d0⟩, ⟨c1, d1⟩, ⟨c2, d2⟩, ⟨c3, d3⟩, ⟨c4, d4⟩, ⟨c5, d5⟩, ⟨c6, d6⟩, ⟨c7, d7⟩⟩ := Q3.eight
   obtain ⟨⟨e0, f0⟩, ⟨e1, f1⟩, ⟨e2, f2⟩, ⟨e3, f3⟩, ⟨e4, f4⟩, ⟨e5, f5⟩, ⟨e6, f6⟩, ⟨e7, f7⟩⟩ := X3.eight
   have hAD : A / D = a / b := by rw [← HAA.out, ← HDD.out, Nat.mul_div_mul_right _ _ (Nat.pow_pos (by decide))]
   have hfit : Fits (A % D) := Nat.lt_of_lt_of_le (Nat.lt_of_lt_of_le (Nat.mod_lt _ HD0.out) (Nat.le_of_lt HN3.out)) (Nat.pow_le_pow_right (by decide) (by have := HKN.out; omega))
   have hmod : A % D / 2 ^ s = a % b := by rw [← HAA.out, ← HDD.out, Nat.mul_mod_mul_right, Nat.mul_div_cancel _ (Nat.pow_pos (by decide))]
   have HSH := Lib.hid (fun W => shiftRight_run (A % D) s W (by omega) hfit)
   rw [hmod] at HSH
   rw [hAD] at c0 c1 c2 c3 c4 c5 c6 c7
   have HQ3 := Lib.hid (hAD ▸ Q3)
   have HX3 := Lib.hid X3
   have hsz : S + 1 + 1 + 1 + 1 ≤ wp.heap.size := by
    have h1 := N1.2.2
    have h2 : wr.drew.heap.size = wr.heap.size := rfl
    have h3 := HSZ.out
    omega
   unfold wordsV at HSH
   clear hQ hR X2 N1 X3 Q3 HM HQ HR HE HW HB hAD hfit hmod HN3 HN4
   generalize A % D = rr at *
   go_wp2_with fail
   go_region
   clear hc1
   go_wp2_with fail
   have HK1 : Hid (∀ w', Below wp.drew.heap.size wp.drew w' → WordsAt w' (S + 1 + 1) 0 (a / b) 8) := fun w' hw' => WordsF.keep (w := wp.drew) HQ3.out hw' (by show S + 1 + 1 < wp.heap.size; omega)
   have HK2 : Hid (∀ w', Below wp.drew.heap.size wp.drew w' → WordsAt w' (S + 1 + 1 + 1) 0 rr 8) := fun w' hw' => WordsF.keep (w := wp.drew) HX3.out hw' (by show S + 1 + 1 + 1 < wp.heap.size; omega)
   have HK3 : Hid (∀ w', Below wp.drew.heap.size wp.drew w' → Below S w w') := fun w' hw' => W3.out.drew.trans (hw'.mono (by show S ≤ wp.heap.size; omega))
   go_region_with (go_at_call 252; refine (HSH.out _).mono ?_; rintro e w9 ⟨rfl, hw9⟩; obtain ⟨⟨g0, h0⟩, ⟨g1, h1⟩, ⟨g2, h2⟩, ⟨g3, h3⟩, ⟨g4, h4⟩, ⟨g5, h5⟩, ⟨g6, h6⟩, ⟨g7, h7⟩⟩ := (HK1.out _ hw9).eight; obtain ⟨⟨i0, j0⟩, ⟨i1, j1⟩, ⟨i2, j2⟩, ⟨i3, j3⟩, ⟨i4, j4⟩, ⟨i5, j5⟩, ⟨i6, j6⟩, ⟨i7, j7⟩⟩ := (HK2.out _ hw9).eight; have W9 := Lib.hid (HK3.out _ hw9); clear hw9 c0 c1 c2 c3 c4 c5 c6 c7 d0 d1 d2 d3 d4 d5 d6 d7 e0 e1 e2 e3 e4 e5 e6 e7 f0 f1 f2 f3 f4 f5 f6 f7)
   all_goals go_wp2_with fail
   all_goals refine bodyPost_ret (v := .tuple #[wordsV (a / b), wordsV (a % b)]) (by rw [results_cell2 rfl]; go_simp; exact ⟨rfl, rfl⟩) rfl ⟨rfl, ?_⟩
   all_goals exact below_set8 (b := S + 1 + 1 + 1) (below_set8 (b := S + 1 + 1) W9.out (by omega) _ _ _ _ _ _ _ _) (by omega) _ _ _ _ _ _ _ _
end Go.Proofs.YtgkhjeefcflmcaaGreatDoor
namespace Go.Proofs.YtgkhjeefcflmcaaGreatDoor
open Go.RowKit Go.Sort
theorem words_eq {a b : Nat} (ha : Fits a) (hb : Fits b) : (wd a 0 = wd b 0 ∧ wd a 1 = wd b 1 ∧ wd a 2 = wd b 2 ∧ wd a 3 = wd b 3 ∧ wd a 4 = wd b 4 ∧ wd a 5 = wd b 5 ∧ wd a 6 = wd b 6 ∧ wd a 7 = wd b 7) ↔ a = b := by
 constructor
 ·rintro ⟨h0, h1, h2, h3, h4, h5, h6, h7⟩
  refine eq_of_digs (B := 18446744073709551616) (k := 8) ha hb fun i hi => ?_
  show wd a i = wd b i
  exact match i, hi with
   | 0, _ => h0
   | 1, _ => h1
   | 2, _ => h2
   | 3, _ => h3
   | 4, _ => h4
   | 5, _ => h5
   | 6, _ => h6
   | 7, _ => h7
 ·rintro rfl
  exact ⟨rfl, rfl, rfl, rfl, rfl, rfl, rfl, rfl⟩
theorem item_run (k : Nat) (w : World) (xs ys : Array Value) (i : Nat) (is : List Nat) (x y : Nat) (hx : xs[i]? = some (.int .u64 (x : Int))) (hy : ys[i]? = some (.int .u64 (y : Int))) (Q : Prop) [Decidable Q]
  (h : (Op.eqItems (k + 1) 89 1 xs ys is).run Tryz.prog w = .ok (decide Q) w) : (Op.eqItems (k + 1) 89 1 xs ys (i :: is)).run Tryz.prog w = .ok (decide (x = y ∧ Q)) w := by
 have u3 : Tryz.prog.underlying 89 = some (.int .u64) := by kernel_rfl
 have hp : Tryz.prog.plainKey 89 = true := by kernel_rfl
 have e := run_equalIn_int (P := Tryz.prog) w k 89 .u64 .u64 (x : Int) (y : Int) u3
 simp only [Op.eqItems, Sem.run_bind, Nat.mul_one, run_part_plain w hp hx, run_part_plain w hp hy, Result.andThen_ok]
 rw [e]
 by_cases h0 : x = y
 ·subst h0
  have e1 : ((x : Int) == (x : Int)) = true := beq_self_eq_true _
  rw [e1]
  simpa using h
 ·have e1 : ((x : Int) == (y : Int)) = false := beq_eq_false_iff_ne.2 (fun e => h0 (by omega))
  rw [e1]
  simp [h0]
set_option maxRecDepth 100000 in
set_option maxHeartbeats 2000000 in
theorem eqWords_any (k : Nat) (T : TypeId) (hu : Tryz.prog.underlying T = some (.array 8 89)) (a b : Nat) (w : World) (ha : Fits a) (hb : Fits b) :
  (Op.equalIn (k + 2) T (wordsV a) (wordsV b)).run Tryz.prog w = .ok (decide (a = b)) w := by
 have hc : Tryz.prog.cellsOf 89 = 1 := by kernel_rfl
 have hs : (Tryz.prog.info? 89).isSome = true := by kernel_rfl
 obtain ⟨i, hi⟩ := Option.isSome_iff_exists.1 hs
 have hw := words_eq ha hb
 unfold wordsV
 rw [run_equalIn_array w (k + 1) _ _ hu hi, hc, show List.range 8 = [0, 1, 2, 3, 4, 5, 6, 7] from rfl]
 have h8 : ∀ xs ys : Array Value, (Op.eqItems (k + 1) 89 1 xs ys []).run Tryz.prog w = .ok (decide True) w := fun xs ys => by simp [Op.eqItems]
 refine (item_run k w _ _ 0 _ (wd a 0) (wd b 0) rfl rfl _ (item_run k w _ _ 1 _ (wd a 1) (wd b 1) rfl rfl _ (item_run k w _ _ 2 _ (wd a 2) (wd b 2) rfl rfl _ (item_run k w _ _ 3 _ (wd a 3) (wd b 3) rfl rfl _
  (item_run k w _ _ 4 _ (wd a 4) (wd b 4) rfl rfl _ (item_run k w _ _ 5 _ (wd a 5) (wd b 5) rfl rfl _ (item_run k w _ _ 6 _ (wd a 6) (wd b 6) rfl rfl _ (item_run k w _ _ 7 _ (wd a 7) (wd b 7) rfl rfl _ (h8 _ _))))))))).trans ?_
 congr 1
 apply decide_eq_decide.2
 rw [and_true]
 exact hw
theorem eqWords_of (T : TypeId) (hu : Tryz.prog.underlying T = some (.array 8 89)) (a b : Nat) (w : World) (ha : Fits a) (hb : Fits b) :
  (Op.equalIn (9999 + 1) T (wordsV a) (wordsV b)).run Tryz.prog w = .ok (decide (a = b)) w := eqWords_any 9998 T hu a b w ha hb
theorem neWords (a b : Nat) (w : World) (ha : Fits a) (hb : Fits b) : (binOp .neq 217 (wordsV a) (wordsV b)).run Tryz.prog w = .ok (.bool (!decide (a = b))) w := by
 have := eqWords_of 217 (by kernel_rfl) a b w ha hb
 unfold wordsV at this ⊢
 rw [run_neq_struct, show (10000 : Nat) = 9999 + 1 from rfl, this]
 rfl
theorem eqWords' (a b : Nat) (w : World) (ha : Fits a) (hb : Fits b) : (binOp .eql 90 (wordsV a) (wordsV b)).run Tryz.prog w = .ok (.bool (decide (a = b))) w := by
 have := eqWords_of 90 (by kernel_rfl) a b w ha hb
 unfold wordsV at this ⊢
 rw [run_eql_struct, show (10000 : Nat) = 9999 + 1 from rfl, this]
 rfl
def intV (s : Bool) (n : Nat) : Value := .agg #[.bool s, .int .u64 (wd n 0 : Int), .int .u64 (wd n 1 : Int), .int .u64 (wd n 2 : Int), .int .u64 (wd n 3 : Int), .int .u64 (wd n 4 : Int), .int .u64 (wd n 5 : Int), .int .u64 (wd n 6 : Int), .int .u64 (wd n 7 : Int)]
def sgn (s : Bool) (n : Nat) : Bool := s && !decide (n = 0)
set_option maxRecDepth 100000 in
set_option maxHeartbeats 4000000 in
theorem signed_run (s : Bool) (n : Nat) (w : World) (hn : Hid (Fits n)) :
  Calls Tryz.prog 221 #[.bool s, wordsV n] w fun e w' => e = .returned (intV (sgn s n) n) ∧ Below w.heap.size w w' := by
 have hne := fun W => neWords n 0 W hn.out (Nat.pow_pos (by decide))
 obtain ⟨v, hv⟩ : ∃ v, (!decide (n = 0)) = v := ⟨_, rfl⟩
 rw [hv] at hne
 have HV : Hid (sgn s n = (s && v)) := by show _ = _; rw [sgn, hv]
 simp only [wordsV, wd_zero, Int.natCast_zero] at hne
 rw [HV.out]
 have HB : Hid (∀ o p : Obj, Below w.heap.size w ((w.alloc o).alloc p).drew) := fun o p => ((below_alloc w o).alloc (by simp) p).drew
 clear hv
 unfold wordsV intV
 cases s with
 | false =>
  go_enter Tryz.func221, Tryz.ntmps221
  go_wp2_with fail
  go_region
  go_wp2_with fail
  refine bodyPost_ret (v := intV false n) (by rw [results_cell1 rfl]; go_simp; try rfl) rfl ⟨by rw [Bool.false_and]; rfl, ?_⟩
  exact HB.out _ _
 | true =>
  go_enter Tryz.func221, Tryz.ntmps221
  go_wp2_with fail
  go_region
  go_wp2_with fail
  refine bodyPost_ret (v := intV v n) (by rw [results_cell1 rfl]; go_simp; try rfl) rfl ⟨by rw [Bool.true_and]; rfl, ?_⟩
  exact HB.out _ _
end Go.Proofs.YtgkhjeefcflmcaaGreatDoor
namespace Go.Proofs.YtgkhjeefcflmcaaGreatDoor
open Go.RowKit
def dvN (c : Nat) : Nat := if 48 ≤ c ∧ c ≤ 57 then c - 48 else if 97 ≤ c ∧ c ≤ 102 then c - 87 else if 65 ≤ c ∧ c ≤ 70 then c - 55 else 16
theorem dvN_le (c : Nat) : dvN c ≤ 16 := by
  unfold dvN
  split
  · omega
  · split
    · omega
    · split <;> omega
def num (B : Nat) (l : List UInt8) : Nat := l.foldl (fun a c => a * B + dvN c.toNat) 0
theorem num_snoc (B : Nat) (l : List UInt8) (c : UInt8) : num B (l ++ [c]) = num B l * B + dvN c.toNat := by unfold num; rw [List.foldl_append]; rfl
theorem foldl_ge {B : Nat} (hB : 1 ≤ B) : ∀ (m : List UInt8) (a : Nat), a ≤ m.foldl (fun a c => a * B + dvN c.toNat) a
  | [], _ => Nat.le_refl _
  | _ :: m, a => Nat.le_trans (Nat.le_trans (Nat.le_mul_of_pos_right a hB) (Nat.le_add_right _ _)) (foldl_ge hB m _)
theorem num_take {B : Nat} (hB : 1 ≤ B) (l : List UInt8) (i : Nat) : num B (l.take i) ≤ num B l := by
  have h : num B l = (l.drop i).foldl (fun a c => a * B + dvN c.toNat) (num B (l.take i)) := by
    unfold num
    rw [← List.foldl_append, List.take_append_drop]
  rw [h]
  exact foldl_ge hB _ _
theorem take_succ_of {l : List UInt8} {i : Nat} {c : UInt8} (h : l[i]? = some c) : l.take (i + 1) = l.take i ++ [c] := by
  rw [List.take_add_one, h]
  rfl
def okDig (B : Nat) (l : List UInt8) : Bool := l.all fun c => decide (dvN c.toNat < B)
theorem okDig_get {B : Nat} {l : List UInt8} (h : okDig B l = true) {i : Nat} {c : UInt8} (hc : l[i]? = some c) : dvN c.toNat < B := by
  have := List.all_eq_true.1 h c (List.mem_of_getElem? hc)
  simpa using this
theorem okDig_not {B : Nat} {l : List UInt8} {i : Nat} {c : UInt8} (hc : l[i]? = some c) (h : ¬ dvN c.toNat < B) : okDig B l = false := by
  cases e : okDig B l
  · rfl
  · exact absurd (okDig_get e hc) h
theorem okDig_of {B : Nat} {l : List UInt8} (h : ∀ (i : Nat) (c : UInt8), l[i]? = some c → dvN c.toNat < B) : okDig B l = true := by
  refine List.all_eq_true.2 fun c hc => ?_
  obtain ⟨i, hi⟩ := List.mem_iff_getElem?.1 hc
  simpa using h i c hi
def parK (B : Nat) (l : List UInt8) : Nat := if l = [] then 12 else if okDig B l = false then 13 else if num B l < 18446744073709551616 ^ 8 then 0 else 9
def parN (B : Nat) (l : List UInt8) : Nat := if parK B l = 0 then num B l else 0
theorem parK_nil (B : Nat) : parK B [] = 12 := if_pos rfl
theorem parK_dig {B : Nat} {l : List UInt8} (h : okDig B l = false) (hl : l ≠ []) : parK B l = 13 := by unfold parK; rw [if_neg hl, if_pos h]
theorem parK_over {B : Nat} {l : List UInt8} (h : okDig B l = true) (hl : l ≠ []) (hf : ¬ Fits (num B l)) : parK B l = 9 := by unfold parK; rw [if_neg hl, if_neg (by rw [h]; decide)]; exact if_neg hf
theorem parK_ok {B : Nat} {l : List UInt8} (h : okDig B l = true) (hl : l ≠ []) (hf : Fits (num B l)) : parK B l = 0 := by unfold parK; rw [if_neg hl, if_neg (by rw [h]; decide)]; exact if_pos hf
theorem parN_ok {B : Nat} {l : List UInt8} (h : parK B l = 0) : parN B l = num B l := if_pos h
theorem parN_no {B : Nat} {l : List UInt8} (h : parK B l ≠ 0) : parN B l = 0 := if_neg h
theorem parK_cases (B : Nat) (l : List UInt8) : parK B l = 0 ∨ parK B l = 9 ∨ parK B l = 12 ∨ parK B l = 13 := by
  unfold parK
  split
  · simp
  · split
    · simp
    · split <;> simp
theorem parN_fits (B : Nat) (l : List UInt8) : Fits (parN B l) := by
  by_cases h : parK B l = 0
  · rw [parN_ok h]
    unfold parK at h
    split at h
    · cases h
    · split at h
      · cases h
      · split at h
        · assumption
        · cases h
  · rw [parN_no h]
    exact Nat.pow_pos (by decide)
end Go.Proofs.YtgkhjeefcflmcaaGreatDoor
namespace Go.Proofs.YtgkhjeefcflmcaaGreatDoor
open Go.RowKit Go.Sort
set_option linter.unusedSimpArgs false
set_option maxRecDepth 100000 in
set_option maxHeartbeats 2000000 in
theorem digit_runL (c : Nat) (h : c < 256) (w : World) :
  Calls Tryz.prog 158 #[.int .u8 (c : Int)] w fun e w' => e = .returned (.int .i64 (dvN c : Int)) ∧ w' = w := by
 have hc : c < 48 ∨ (48 ≤ c ∧ c ≤ 57) ∨ (57 < c ∧ c < 65) ∨ (65 ≤ c ∧ c ≤ 70) ∨ (70 < c ∧ c < 97) ∨ (97 ≤ c ∧ c ≤ 102) ∨ 102 < c := by omega
 rcases hc with hc | hc | hc | hc | hc | hc | hc
 ·have h1 : ¬ (48 : Int) ≤ (c : Int) := by omega
  have h3 : ¬ (97 : Int) ≤ (c : Int) := by omega
  have h5 : ¬ (65 : Int) ≤ (c : Int) := by omega
  have hd : dvN c = 16 := by unfold dvN; rw [if_neg (by omega), if_neg (by omega), if_neg (by omega)]
  rw [hd]
  clear hc hd
  go_enter Tryz.func158, Tryz.ntmps158
  go_wp2_with fail
  go_ret
  exact ⟨rfl, rfl⟩
 ·have h1 : (48 : Int) ≤ (c : Int) := by omega
  have h2 : (c : Int) ≤ 57 := by omega
  have hd : (dvN c : Int) = (c : Int) - 48 := by unfold dvN; rw [if_pos (by omega)]; omega
  rw [hd]
  clear hc hd
  go_enter Tryz.func158, Tryz.ntmps158
  go_wp2_with fail
  go_ret
  exact ⟨rfl, rfl⟩
 ·have h1 : (48 : Int) ≤ (c : Int) := by omega
  have h2 : ¬ (c : Int) ≤ 57 := by omega
  have h3 : ¬ (97 : Int) ≤ (c : Int) := by omega
  have h5 : ¬ (65 : Int) ≤ (c : Int) := by omega
  have hd : dvN c = 16 := by unfold dvN; rw [if_neg (by omega), if_neg (by omega), if_neg (by omega)]
  rw [hd]
  clear hc hd
  go_enter Tryz.func158, Tryz.ntmps158
  go_wp2_with fail
  go_ret
  exact ⟨rfl, rfl⟩
 ·have h1 : (48 : Int) ≤ (c : Int) := by omega
  have h2 : ¬ (c : Int) ≤ 57 := by omega
  have h3 : ¬ (97 : Int) ≤ (c : Int) := by omega
  have h5 : (65 : Int) ≤ (c : Int) := by omega
  have h6 : (c : Int) ≤ 70 := by omega
  have hd : (dvN c : Int) = (c : Int) - 65 + 10 := by unfold dvN; rw [if_neg (by omega), if_neg (by omega), if_pos (by omega)]; omega
  rw [hd]
  clear hc hd
  go_enter Tryz.func158, Tryz.ntmps158
  go_wp2_with fail
  go_ret
  exact ⟨rfl, rfl⟩
 ·have h1 : (48 : Int) ≤ (c : Int) := by omega
  have h2 : ¬ (c : Int) ≤ 57 := by omega
  have h3 : ¬ (97 : Int) ≤ (c : Int) := by omega
  have h5 : (65 : Int) ≤ (c : Int) := by omega
  have h6 : ¬ (c : Int) ≤ 70 := by omega
  have hd : dvN c = 16 := by unfold dvN; rw [if_neg (by omega), if_neg (by omega), if_neg (by omega)]
  rw [hd]
  clear hc hd
  go_enter Tryz.func158, Tryz.ntmps158
  go_wp2_with fail
  go_ret
  exact ⟨rfl, rfl⟩
 ·have h1 : (48 : Int) ≤ (c : Int) := by omega
  have h2 : ¬ (c : Int) ≤ 57 := by omega
  have h3 : (97 : Int) ≤ (c : Int) := by omega
  have h4 : (c : Int) ≤ 102 := by omega
  have hd : (dvN c : Int) = (c : Int) - 97 + 10 := by unfold dvN; rw [if_neg (by omega), if_pos (by omega)]; omega
  rw [hd]
  clear hc hd
  go_enter Tryz.func158, Tryz.ntmps158
  go_wp2_with fail
  go_ret
  exact ⟨rfl, rfl⟩
 ·have h1 : (48 : Int) ≤ (c : Int) := by omega
  have h2 : ¬ (c : Int) ≤ 57 := by omega
  have h3 : (97 : Int) ≤ (c : Int) := by omega
  have h4 : ¬ (c : Int) ≤ 102 := by omega
  have h5 : (65 : Int) ≤ (c : Int) := by omega
  have h6 : ¬ (c : Int) ≤ 70 := by omega
  have hd : dvN c = 16 := by unfold dvN; rw [if_neg (by omega), if_neg (by omega), if_neg (by omega)]
  rw [hd]
  clear hc hd
  go_enter Tryz.func158, Tryz.ntmps158
  go_wp2_with fail
  go_ret
  exact ⟨rfl, rfl⟩
theorem index_at {s : ByteArray} {i : Nat} {b : UInt8} (h : s.data.toList[i]? = some b) (W : World) : (Instr.index 9 (.string s) (.int .i64 (i : Int))).run Tryz.prog W = .ok (.int .u8 (b.toNat : Int)) W := by
 obtain ⟨hi, he⟩ := List.getElem?_eq_some_iff.1 h
 have hi2 : i < s.size := by simpa using hi
 rw [run_index_string _ _ _ _ _ Tryz.underlying9, dif_pos (by omega)]
 have : s[(i : Int).toNat]'(by simpa using hi2) = b := by
  rw [← he]
  simp
  rfl
 rw [this]
end Go.Proofs.YtgkhjeefcflmcaaGreatDoor
