/-
  Stage 7: limb's shiftLeft, shiftRight, widen.
-/
import Derived.Test.YtgkhjeefcflmcaaGreatDoorMt04
namespace Go.Proofs.YtgkhjeefcflmcaaGreatDoor
open Go.RowKit Go.Sort
theorem wd_mul_pow {m q t : Nat} : wd (m * 18446744073709551616 ^ q) t = if q ≤ t then wd m (t - q) else 0 := by
 unfold wd
 by_cases h : q ≤ t
 ·rw [if_pos h]
  obtain ⟨u, rfl⟩ : ∃ u, t = u + q := ⟨t - q, by omega⟩
  rw [← dig_div, Nat.mul_div_cancel _ (Nat.pow_pos (by decide)), Nat.add_sub_cancel]
 ·rw [if_neg h, ← dig_mod (j := q) (Nat.lt_of_not_le h), Nat.mul_mod_left, dig_zero]
theorem pow_split {s t : Nat} (h : s + t = 64) : (2 : Nat) ^ (s + t) = 18446744073709551616 := by rw [h]
theorem wd_shl {m i s : Nat} (hs : s < 64) : wd (m * 2 ^ s) (i + 1) = (wd m (i + 1) * 2 ^ s % 18446744073709551616) ||| (wd m i / 2 ^ (64 - s)) := by
 have := dig_shl (m := m) (i := i) (s := s) (t := 64 - s)
 rwa [pow_split (by omega)] at this
theorem wd_shl0 {m s : Nat} (hs : s < 64) : wd (m * 2 ^ s) 0 = wd m 0 * 2 ^ s % 18446744073709551616 := by
 have := dig_shl0 (m := m) (s := s) (t := 64 - s)
 rwa [pow_split (by omega)] at this
theorem wd_shr {m i s : Nat} (hs : s < 64) : wd (m / 2 ^ s) i = (wd m i / 2 ^ s) ||| (wd m (i + 1) * 2 ^ (64 - s) % 18446744073709551616) := by
 have := dig_shr (m := m) (i := i) (s := s) (t := 64 - s)
 rwa [pow_split (by omega)] at this
theorem wrap_shl (x s : Nat) : IntKind.u64.wrap ((x : Int) * 2 ^ s) = ((x * 2 ^ s % 18446744073709551616 : Nat) : Int) := by
 have e : (x : Int) * 2 ^ s = ((x * 2 ^ s : Nat) : Int) := by rw [Int.natCast_mul, Int.natCast_pow]; rfl
 rw [e, IntKind.wrap_u64]
 generalize x * 2 ^ s = y
 omega
theorem div_pow (y t : Nat) : (y : Int) / 2 ^ t = ((y / 2 ^ t : Nat) : Int) := by
 rw [Int.natCast_ediv, Int.natCast_pow]
 rfl
theorem or_words {x y s t : Nat} (hy : y < 18446744073709551616) : bits .or .u64 (IntKind.u64.wrap ((x : Int) * 2 ^ s)) ((y : Int) / 2 ^ t) = (((x * 2 ^ s % 18446744073709551616) ||| (y / 2 ^ t) : Nat) : Int) := by
 rw [wrap_shl, div_pow]
 exact bits_or_u64_nat _ _ (Nat.mod_lt _ (by decide)) (Nat.lt_of_le_of_lt (Nat.div_le_self _ _) hy)
theorem or_words' {x y s t : Nat} (hy : y < 18446744073709551616) : bits .or .u64 ((y : Int) / 2 ^ t) (IntKind.u64.wrap ((x : Int) * 2 ^ s)) = (((y / 2 ^ t) ||| (x * 2 ^ s % 18446744073709551616) : Nat) : Int) := by
 rw [wrap_shl, div_pow]
 exact bits_or_u64_nat _ _ (Nat.lt_of_le_of_lt (Nat.div_le_self _ _) hy) (Nat.mod_lt _ (by decide))
theorem box_zero (w : World) (a : Nat) (T U : TypeId) : WordsAt ((w.alloc (boxO a T)).alloc (boxZ U)) w.heap.size 0 a 8 ∧ WordsAt ((w.alloc (boxO a T)).alloc (boxZ U)) (w.heap.size + 1) 0 0 8 ∧ Below w.heap.size w ((w.alloc (boxO a T)).alloc (boxZ U)) := by
 refine ⟨(WordsAt.new w a T).alloc (by simp) _, ?_, (below_alloc w _).alloc (by simp) _⟩
 have := WordsAt.zero (w.alloc (boxO a T)) U
 simpa using this
set_option maxRecDepth 100000 in
set_option maxHeartbeats 8000000 in
theorem shiftLeft_run (a n : Nat) (w : World) (hn : n < 512) :
  Calls Tryz.prog 249 #[wordsV a, .int .i64 (n : Int)] w fun e w' => e = .returned (wordsV (a * 2 ^ n)) ∧ Below w.heap.size w w' := by
 obtain ⟨q, hq⟩ : ∃ q, n / 64 = q := ⟨_, rfl⟩
 obtain ⟨s, hs⟩ : ∃ s, n % 64 = s := ⟨_, rfl⟩
 have hq8 : q < 8 := by omega
 have hs64 : s < 64 := by omega
 have hne : ¬ 8 = q := by omega
 have hqz : (n : Int) / 64 = (q : Int) := by omega
 have hsz : (n : Int) % 64 = (s : Int) := by omega
 have hq8z : (q : Int) ≤ 8 := by omega
 have HV : Hid (a * 18446744073709551616 ^ q * 2 ^ s = a * 2 ^ n) := by
  have e1 : (18446744073709551616 : Nat) = 2 ^ 64 := rfl
  show _ = _
  rw [e1, ← Nat.pow_mul, Nat.mul_assoc, ← Nat.pow_add, show 64 * q + s = n by omega]
 obtain ⟨W, hW⟩ : ∃ W, (w.alloc (boxO a 217)).alloc (boxZ 217) = W := ⟨_, rfl⟩
 obtain ⟨h1, h2, h3⟩ := box_zero w a 217 217
 rw [hW] at h1 h2 h3
 obtain ⟨wc, hcp, C2, N2⟩ := copy_into W.drew (w.heap.size + 1) 0 q w.heap.size 0 8 (8 - q) 8 (8 - q) 8 (wd 0) (wd a) h2 (by omega) h1 (8 - q) (by show min 8 (8 - q) = 8 - q; omega)
 rw [Nat.zero_add, ← hW] at hcp
 have HC : Hid (WordsAt wc (w.heap.size + 1) 0 (a * 18446744073709551616 ^ q) 8) := C2.ext fun t ht => by
  simp only [wd_mul_pow, wd_zero]
  by_cases h : q ≤ t
  ·rw [if_pos ⟨h, by omega⟩, if_pos h]
  ·rw [if_neg (fun h' => h h'.1), if_neg h]
 have HW : Hid (Below w.heap.size w wc) := N2.of_drew.2.1 _ _ (by omega) h3
 clear hW h1 h2 h3 C2 N2
 unfold wordsV
 go_enter Tryz.func249, Tryz.ntmps249
 go_wp2_with fail
 go_region
 clear hcp
 go_wp2_with fail
 obtain ⟨M, hM⟩ : ∃ M, a * 18446744073709551616 ^ q = M := ⟨_, rfl⟩
 rw [hM] at HC HV
 clear hM
 go_loopg [5] 10 (fun h s5 wr => ∃ (i : Nat) (f : Nat → Nat), s5 = .int .i64 (i : Int) ∧ Hid (i ≤ 7 ∧ i < h) ∧ Hid (WordsF wr (w.heap.size + 1) 0 f 8) ∧ Hid ((∀ t, t ≤ i → f t = wd M t) ∧ (∀ t, i < t → t < 8 → f t = wd (M * 2 ^ s) t)) ∧ Hid (Below w.heap.size w wr))
 case atStart => exact ⟨7, wd M, rfl, by show _ ∧ _; omega, HC, ⟨fun t _ => rfl, fun t h1 h2 => absurd h1 (by omega)⟩, HW⟩
 case round =>
  clear HC HW
  obtain ⟨i, f, rfl, HI, HF, HE, HW⟩ := hrel
  cases i with
  | zero =>
   have HE0 := HE.out.1 0 (by decide)
   obtain ⟨x, hx⟩ : ∃ x, f 0 = x := ⟨_, rfl⟩
   obtain ⟨v, hv0⟩ : ∃ v, x * 2 ^ s % 18446744073709551616 = v := ⟨_, rfl⟩
   have hv : IntKind.u64.wrap ((x : Int) * 2 ^ s) = (v : Int) := by rw [wrap_shl, hv0]
   have hvm : v = wd (M * 2 ^ s) 0 := by rw [wd_shl0 hs64, ← HE0, hx]; exact hv0.symm
   have KF : WordsAt (wr.setCell ⟨w.heap.size + 1, 0, none⟩ (.int .u64 (v : Int))) (w.heap.size + 1) 0 (a * 2 ^ n) 8 := by
    have := HF.out.upd (i := 0) (by decide) v
    rw [Nat.zero_add] at this
    refine this.ext fun t ht => ?_
    rw [← HV.out]
    by_cases e : t = 0
    ·rw [e, updF_same, hvm]
    ·rw [updF_other e]; exact HE.out.2 t (by omega) ht
   have HW2 : Hid (Below w.heap.size w (wr.setCell ⟨w.heap.size + 1, 0, none⟩ (.int .u64 (v : Int)))) := HW.out.setCell (p := ⟨w.heap.size + 1, 0, none⟩) (by show w.heap.size ≤ w.heap.size + 1; omega) _
   have cf := HF.out 0 (by decide)
   rw [Nat.zero_add, hx] at cf
   obtain ⟨cf1, cf2⟩ := cf
   clear hv0 hvm hx HE0 HF HE HW
   go_upto_region 8 with fail
   clear cf1 cf2 hv
   obtain ⟨⟨c0, d0⟩, ⟨c1, d1⟩, ⟨c2, d2⟩, ⟨c3, d3⟩, ⟨c4, d4⟩, ⟨c5, d5⟩, ⟨c6, d6⟩, ⟨c7, d7⟩⟩ := KF.eight
   generalize wr.setCell ⟨w.heap.size + 1, 0, none⟩ (.int .u64 (v : Int)) = wx at *
   clear KF
   go_wp2_with fail
   refine bodyPost_ret (v := wordsV (a * 2 ^ n)) (by rw [results_cell1 rfl]; go_simp; try rfl) rfl ⟨rfl, ?_⟩
   exact below_set8 (b := w.heap.size + 1) HW2.out (by omega) _ _ _ _ _ _ _ _
  | succ i =>
   have hi7 : i < 7 := by have := HI.out; omega
   have hp2 : (0 : Int) < ((i + 1 : Nat) : Int) := by omega
   have hw1 : IntKind.i64.wrap (((i + 1 : Nat) : Int) - 1) = (i : Int) := by rw [IntKind.wrap_i64]; omega
   have hi8z : ((i + 1 : Nat) : Int) < 8 := by omega
   have hi8y : (i : Int) < 8 := by omega
   obtain ⟨x, hx⟩ : ∃ x, f (i + 1) = x := ⟨_, rfl⟩
   obtain ⟨y, hy⟩ : ∃ y, f i = y := ⟨_, rfl⟩
   have cf := HF.out (i + 1) (by omega)
   have cg := HF.out i (by omega)
   rw [Nat.zero_add] at cf cg
   rw [hx] at cf
   rw [hy] at cg
   obtain ⟨cf1, cf2⟩ := cf
   obtain ⟨cg1, cg2⟩ := cg
   have HE1 := HE.out.1 (i + 1) (Nat.le_refl _)
   have HE2 := HE.out.1 i (by omega)
   have hyl : y < 18446744073709551616 := by rw [← hy, HE2]; exact wd_lt _ _
   obtain ⟨v, hv0⟩ : ∃ v, (x * 2 ^ s % 18446744073709551616) ||| (y / 2 ^ (64 - s)) = v := ⟨_, rfl⟩
   have hv : bits .or .u64 (IntKind.u64.wrap ((x : Int) * 2 ^ s)) ((y : Int) / 2 ^ (64 - s)) = (v : Int) := by rw [or_words hyl, hv0]
   have HVM : Hid (v = wd (M * 2 ^ s) (i + 1)) := by show _ = _; rw [wd_shl hs64, ← HE1, ← HE2, hx, hy]; exact hv0.symm
   clear hv0 hx hy HE1 HE2 hyl
   go_wp2_with fail
   go_region
   have HF2 : Hid (WordsF (wr.setCell ⟨w.heap.size + 1, i + 1, none⟩ (.int .u64 (v : Int))).drew (w.heap.size + 1) 0 (updF f (i + 1) v) 8) := by
    have := HF.out.upd (i := i + 1) (by omega) v
    rwa [Nat.zero_add] at this
   have HW2 : Hid (Below w.heap.size w (wr.setCell ⟨w.heap.size + 1, i + 1, none⟩ (.int .u64 (v : Int))).drew) := (HW.out.setCell (p := ⟨w.heap.size + 1, i + 1, none⟩) (by show w.heap.size ≤ w.heap.size + 1; omega) _).drew
   clear cf1 cf2 cg1 cg2 HF HW hv
   generalize (wr.setCell ⟨w.heap.size + 1, i + 1, none⟩ (.int .u64 (v : Int))).drew = wx at *
   go_wp2_with fail
   go_roundg (i + 1)
   case measure => have := HI.out; omega
   case rel =>
    refine ⟨i, updF f (i + 1) v, by go_num, by show _ ∧ _; have := HI.out; omega, HF2, ⟨fun t ht => ?_, fun t ht ht2 => ?_⟩, HW2⟩
    ·rw [updF_other (by omega)]; exact HE.out.1 t (by omega)
    ·by_cases e : t = i + 1
     ·rw [e, updF_same]; exact HVM.out
     ·rw [updF_other e]; exact HE.out.2 t (by omega) ht2
end Go.Proofs.YtgkhjeefcflmcaaGreatDoor
namespace Go.Proofs.YtgkhjeefcflmcaaGreatDoor
open Go.RowKit Go.Sort
theorem wd_div_pow {m q t : Nat} : wd (m / 18446744073709551616 ^ q) t = wd m (t + q) := dig_div
theorem wd_high {m t : Nat} (h : Fits m) (ht : 8 ≤ t) : wd m t = 0 := dig_high (Nat.lt_of_lt_of_le h (Nat.pow_le_pow_right (by decide) ht))
theorem fits_div {m : Nat} (h : Fits m) (k : Nat) : Fits (m / k) := Nat.lt_of_le_of_lt (Nat.div_le_self _ _) h
set_option maxRecDepth 100000 in
set_option maxHeartbeats 1000000 in
theorem shiftRight_run (a n : Nat) (w : World) (hn : n < 512) (ha : Fits a) :
  Calls Tryz.prog 252 #[wordsV a, .int .i64 (n : Int)] w fun e w' => e = .returned (wordsV (a / 2 ^ n)) ∧ Below w.heap.size w w' := by
 obtain ⟨q, hq⟩ : ∃ q, n / 64 = q := ⟨_, rfl⟩
 obtain ⟨s, hs⟩ : ∃ s, n % 64 = s := ⟨_, rfl⟩
 have hq8 : q < 8 := by omega
 have hs64 : s < 64 := by omega
 have hne : ¬ 8 = q := by omega
 have hqz : (n : Int) / 64 = (q : Int) := by omega
 have hsz : (n : Int) % 64 = (s : Int) := by omega
 have hq8z : (q : Int) ≤ 8 := by omega
 have hnz : decide ((512 : Int) ≤ (n : Int)) = false := by simp; omega
 have HV : Hid (a / 18446744073709551616 ^ q / 2 ^ s = a / 2 ^ n) := by
  have e1 : (18446744073709551616 : Nat) = 2 ^ 64 := rfl
  show _ = _
  rw [e1, ← Nat.pow_mul, Nat.div_div_eq_div_mul, ← Nat.pow_add, show 64 * q + s = n by omega]
 have HM := Lib.hid (fits_div ha (18446744073709551616 ^ q))
 obtain ⟨W, hW⟩ : ∃ W, (w.alloc (boxO a 217)).alloc (boxZ 217) = W := ⟨_, rfl⟩
 obtain ⟨h1, h2, h3⟩ := box_zero w a 217 217
 rw [hW] at h1 h2 h3
 obtain ⟨wc, hcp, C2, N2⟩ := copy_into W.drew (w.heap.size + 1) 0 0 w.heap.size q 8 8 (8 - q) 8 (8 - q) (wd 0) (fun t => wd a (q + t)) h2 (by omega) (by have := h1.sub q (8 - q) (by omega); rwa [Nat.zero_add] at this) (8 - q) (by show min (8 - q) 8 = 8 - q; omega)
 rw [Nat.add_zero, ← hW] at hcp
 have HC : Hid (WordsAt wc (w.heap.size + 1) 0 (a / 18446744073709551616 ^ q) 8) := C2.ext fun t ht => by
  simp only [wd_div_pow, wd_zero]
  by_cases h : t < 8 - q
  ·rw [if_pos ⟨Nat.zero_le _, by omega⟩, Nat.sub_zero, Nat.add_comm]
  ·rw [if_neg (fun h' => h (by omega)), wd_high ha (by omega)]
 have HW : Hid (Below w.heap.size w wc) := N2.of_drew.2.1 _ _ (by omega) h3
 clear hW h1 h2 h3 C2 N2 ha
 unfold wordsV
 go_enter Tryz.func252, Tryz.ntmps252
 go_wp2_with fail
 go_region
 clear hcp
 go_wp2_with fail
 obtain ⟨M, hM⟩ : ∃ M, a / 18446744073709551616 ^ q = M := ⟨_, rfl⟩
 rw [hM] at HC HV HM
 clear hM
 go_loopg [18] 10 (fun h s18 wr => ∃ (i : Nat) (f : Nat → Nat), s18 = .int .i64 (i : Int) ∧ Hid (i ≤ 7 ∧ 8 ≤ i + h) ∧ Hid (WordsF wr (w.heap.size + 1) 0 f 8) ∧ Hid ((∀ t, t < i → f t = wd (M / 2 ^ s) t) ∧ (∀ t, i ≤ t → t < 8 → f t = wd M t)) ∧ Hid (Below w.heap.size w wr))
 case atStart => exact ⟨0, wd M, rfl, by show _ ∧ _; omega, HC, ⟨fun t ht => absurd ht (by omega), fun t _ _ => rfl⟩, HW⟩
 case round =>
  clear HC HW
  obtain ⟨i, f, rfl, HI, HF, HE, HW⟩ := hrel
  by_cases hlt : i < 7
  ·have hltz : (i : Int) < 7 := by omega
   have hi8 : (i : Int) < 8 := by omega
   have hi9 : (i : Int) + 1 < 8 := by omega
   obtain ⟨m, hm⟩ : ∃ m, i + 1 = m := ⟨_, rfl⟩
   have hmz : (i : Int) + 1 = (m : Int) := by omega
   have hm8 : (m : Int) < 8 := by omega
   have hmw : IntKind.i64.wrap (m : Int) = (m : Int) := by rw [IntKind.wrap_i64]; omega
   have HMM := Lib.hid hm
   obtain ⟨x, hx⟩ : ∃ x, f i = x := ⟨_, rfl⟩
   obtain ⟨y, hy⟩ : ∃ y, f m = y := ⟨_, rfl⟩
   have cf := HF.out i (by omega)
   have cg := HF.out m (by omega)
   rw [Nat.zero_add] at cf cg
   rw [hx] at cf
   rw [hy] at cg
   obtain ⟨cf1, cf2⟩ := cf
   obtain ⟨cg1, cg2⟩ := cg
   have HE1 := HE.out.2 i (Nat.le_refl _) (by omega)
   have HE2 := HE.out.2 m (by omega) (by omega)
   have hxl : x < 18446744073709551616 := by rw [← hx, HE1]; exact wd_lt _ _
   obtain ⟨v, hv0⟩ : ∃ v, (x / 2 ^ s) ||| (y * 2 ^ (64 - s) % 18446744073709551616) = v := ⟨_, rfl⟩
   have hv : bits .or .u64 ((x : Int) / 2 ^ s) (IntKind.u64.wrap ((y : Int) * 2 ^ (64 - s))) = (v : Int) := by rw [or_words' hxl, hv0]
   have HVM : Hid (v = wd (M / 2 ^ s) i) := by show _ = _; rw [wd_shr hs64, ← HE1, hm, ← HE2, hx, hy]; exact hv0.symm
   clear hv0 hx hy HE1 HE2 hxl hm
   go_wp2_with fail
   go_region
   have HF2 : Hid (WordsF (wr.setCell ⟨w.heap.size + 1, i, none⟩ (.int .u64 (v : Int))).drew (w.heap.size + 1) 0 (updF f i v) 8) := by
    have := HF.out.upd (i := i) (by omega) v
    rwa [Nat.zero_add] at this
   have HW2 : Hid (Below w.heap.size w (wr.setCell ⟨w.heap.size + 1, i, none⟩ (.int .u64 (v : Int))).drew) := (HW.out.setCell (p := ⟨w.heap.size + 1, i, none⟩) (by show w.heap.size ≤ w.heap.size + 1; omega) _).drew
   clear cf1 cf2 cg1 cg2 HF HW hv
   generalize (wr.setCell ⟨w.heap.size + 1, i, none⟩ (.int .u64 (v : Int))).drew = wx at *
   go_wp2_with fail
   go_roundg (7 - i)
   case measure => have := HI.out; omega
   case rel =>
    refine ⟨m, updF f i v, by go_num, by show _ ∧ _; have := HI.out; have := HMM.out; omega, HF2, ⟨fun t ht => ?_, fun t ht ht2 => ?_⟩, HW2⟩
    ·by_cases e : t = i
     ·rw [e, updF_same]; exact HVM.out
     ·rw [updF_other e]; exact HE.out.1 t (by have := HMM.out; omega)
    ·rw [updF_other (by have := HMM.out; omega)]; exact HE.out.2 t (by have := HMM.out; omega) ht2
  ·obtain rfl : i = 7 := by have := HI.out; omega
   have HE0 := HE.out.2 7 (by decide) (by decide)
   obtain ⟨x, hx⟩ : ∃ x, f 7 = x := ⟨_, rfl⟩
   obtain ⟨v, hv0⟩ : ∃ v, x / 2 ^ s = v := ⟨_, rfl⟩
   have hv : (x : Int) / 2 ^ s = (v : Int) := by rw [div_pow, hv0]
   have hvm : v = wd (M / 2 ^ s) 7 := by rw [wd_shr hs64, wd_high (t := 7 + 1) HM.out (by decide), ← HE0, hx]; simp [hv0]
   have KF : WordsAt (wr.setCell ⟨w.heap.size + 1, 7, none⟩ (.int .u64 (v : Int))) (w.heap.size + 1) 0 (a / 2 ^ n) 8 := by
    have := HF.out.upd (i := 7) (by decide) v
    rw [Nat.zero_add] at this
    refine this.ext fun t ht => ?_
    rw [← HV.out]
    by_cases e : t = 7
    ·rw [e, updF_same, hvm]
    ·rw [updF_other e]; exact HE.out.1 t (by omega)
   have HW2 : Hid (Below w.heap.size w (wr.setCell ⟨w.heap.size + 1, 7, none⟩ (.int .u64 (v : Int)))) := HW.out.setCell (p := ⟨w.heap.size + 1, 7, none⟩) (by show w.heap.size ≤ w.heap.size + 1; omega) _
   have cf := HF.out 7 (by decide)
   rw [Nat.zero_add, hx] at cf
   obtain ⟨cf1, cf2⟩ := cf
   clear hv0 hvm hx HE0 HF HE HW
   go_upto_region 12 with fail
   clear cf1 cf2 hv
   obtain ⟨⟨c0, d0⟩, ⟨c1, d1⟩, ⟨c2, d2⟩, ⟨c3, d3⟩, ⟨c4, d4⟩, ⟨c5, d5⟩, ⟨c6, d6⟩, ⟨c7, d7⟩⟩ := KF.eight
   generalize wr.setCell ⟨w.heap.size + 1, 7, none⟩ (.int .u64 (v : Int)) = wx at *
   clear KF
   go_wp2_with fail
   refine bodyPost_ret (v := wordsV (a / 2 ^ n)) (by rw [results_cell1 rfl]; go_simp; try rfl) rfl ⟨rfl, ?_⟩
   exact below_set8 (b := w.heap.size + 1) HW2.out (by omega) _ _ _ _ _ _ _ _
theorem WordsF.less {w : World} {b o k m : Nat} {f : Nat → Nat} (h : WordsF w b o f k) (hm : m ≤ k) : WordsF w b o f m := fun i hi => h i (by omega)
def words9 (n : Nat) : Value := .agg #[.int .u64 (wd n 0 : Int), .int .u64 (wd n 1 : Int), .int .u64 (wd n 2 : Int), .int .u64 (wd n 3 : Int), .int .u64 (wd n 4 : Int), .int .u64 (wd n 5 : Int), .int .u64 (wd n 6 : Int), .int .u64 (wd n 7 : Int), .int .u64 (wd n 8 : Int)]
abbrev boxZ9 (T : TypeId) : Obj := .cells #[.int .u64 0, .int .u64 0, .int .u64 0, .int .u64 0, .int .u64 0, .int .u64 0, .int .u64 0, .int .u64 0, .int .u64 0] T
theorem WordsAt.zero9 (w : World) (T : TypeId) : WordsAt (w.alloc (boxZ9 T)) w.heap.size 0 0 9 := by
 intro i hi
 rw [wd_zero]
 rcases i with _ | _ | _ | _ | _ | _ | _ | _ | _ | i
 all_goals first | exact ⟨World.cell?_alloc_at _ _ _ _ rfl, World.frozen?_alloc_at _ _ _ _ rfl⟩ | omega
set_option maxRecDepth 100000 in
set_option maxHeartbeats 1000000 in
theorem widen_run (a s : Nat) (w : World) (hs : s < 64) (ha : Fits a) :
  Calls Tryz.prog 250 #[wordsV a, .int .i64 (s : Int)] w fun e w' => e = .returned (words9 (a * 2 ^ s)) ∧ Below w.heap.size w w' := by
 obtain ⟨S, hS⟩ : ∃ S, w.heap.size = S := ⟨_, rfl⟩
 have HC := Lib.hid (fun W => shiftLeft_run a s W (by omega))
 obtain ⟨W, hW⟩ : ∃ W, (w.alloc (boxO a 217)).alloc (boxZ9 306) = W := ⟨_, rfl⟩
 have h1 : WordsAt W w.heap.size 0 a 8 := by rw [← hW]; exact (WordsAt.new w a _).alloc (by simp) _
 have h2 : WordsAt W (w.heap.size + 1) 0 0 9 := by
  have := WordsAt.zero9 (w.alloc (boxO a 217)) 306
  rw [hW] at this
  simpa using this
 have h3 : Below w.heap.size w W := by rw [← hW]; exact (below_alloc w _).alloc (by simp) _
 have h4 : W.heap.size = w.heap.size + 1 + 1 := by rw [← hW]; simp
 rw [hS] at h1 h2 h3 h4
 have H1 := Lib.hid h1
 have H2 := Lib.hid h2
 have H3 := Lib.hid h3
 have H4 := Lib.hid h4
 unfold wordsV at HC ⊢
 rw [hS]
 obtain ⟨⟨c0, d0⟩, ⟨c1, d1⟩, ⟨c2, d2⟩, ⟨c3, d3⟩, ⟨c4, d4⟩, ⟨c5, d5⟩, ⟨c6, d6⟩, ⟨c7, d7⟩⟩ := h1.eight
 clear h1 h2 h3 h4
 go_enter Tryz.func250, Tryz.ntmps250
 go_wp2_with fail
 refine (HC.out _).mono ?_
 rintro e w1 ⟨rfl, hw1⟩
 have k1 : S < W.heap.size := by rw [H4.out]; omega
 have k2 : S + 1 < W.heap.size := by rw [H4.out]; omega
 have A1 := H1.out.keep hw1 k1
 have Z1 := H2.out.keep hw1 k2
 have B1 : Hid (Below S w w1) := H3.out.trans (hw1.mono (Nat.le_of_lt k1))
 have N1 := WordsAt.new w1 (a * 2 ^ s) 217
 have hsz : S + 1 + 1 ≤ w1.heap.size := by have := hw1.size; rw [H4.out] at this; exact this
 obtain ⟨R, hR⟩ : ∃ R, w1.heap.size = R := ⟨_, rfl⟩
 rw [hR] at N1
 have B2 : Below S w (w1.alloc (boxO (a * 2 ^ s) 217)) := B1.out.alloc (by omega) _
 obtain ⟨wc, hcp, C2, N2⟩ := copy_into (w1.alloc (boxO (a * 2 ^ s) 217)).drew (S + 1) 0 0 R 0 9 9 8 9 8 (wd 0) (wd (a * 2 ^ s)) (Z1.alloc (by omega) _) (by omega) N1 8 rfl
 rw [Nat.add_zero] at hcp
 have A2 := (((A1.alloc (by omega) _).but N2.of_drew (by omega)) 7 (by decide)).1
 rw [Nat.zero_add] at A2
 obtain ⟨x, hx⟩ : ∃ x, wd a 7 = x := ⟨_, rfl⟩
 obtain ⟨v, hv0⟩ : ∃ v, x / 2 ^ (64 - s) = v := ⟨_, rfl⟩
 have hv : (x : Int) / 2 ^ (64 - s) = (v : Int) := by rw [div_pow, hv0]
 have hvm : v = wd (a * 2 ^ s) 8 := by rw [wd_shl hs, wd_high (t := 7 + 1) ha (by decide), hx]; simp [hv0]
 rw [hx] at A2
 have K := C2.upd (i := 8) (by decide) v
 have K2 := K.ext (g := wd (a * 2 ^ s)) fun t ht => by
  by_cases e : t = 8
  ·rw [e, updF_same, hvm]
  ·rw [updF_other e]
   simp only [Nat.sub_zero]
   rw [if_pos (by omega)]
 rw [Nat.zero_add] at K2
 have C8 := C2 8 (by decide)
 rw [Nat.zero_add] at C8
 obtain ⟨z1, z2⟩ := C8
 have HB : Hid (Below S w (wc.setCell ⟨S + 1, 8, none⟩ (.int .u64 (v : Int)))) := (N2.of_drew.2.1 S w (by omega) B2).setCell (p := ⟨S + 1, 8, none⟩) (by show S ≤ S + 1; omega) _
 obtain ⟨⟨c0, d0⟩, ⟨c1, d1⟩, ⟨c2, d2⟩, ⟨c3, d3⟩, ⟨c4, d4⟩, ⟨c5, d5⟩, ⟨c6, d6⟩, ⟨c7, d7⟩⟩ := (WordsF.less K2 (by decide : 8 ≤ 9)).eight
 have K8 := K2 8 (by decide)
 rw [Nat.zero_add] at K8
 obtain ⟨c8, d8⟩ := K8
 obtain ⟨wx, hwx⟩ : ∃ wx, wc.setCell ⟨S + 1, 8, none⟩ (.int .u64 (v : Int)) = wx := ⟨_, rfl⟩
 rw [hwx] at c0 c1 c2 c3 c4 c5 c6 c7 c8 d0 d1 d2 d3 d4 d5 d6 d7 d8 HB
 clear K K2 N1 A1 Z1 C2 N2 B2 hx hv0 hvm B1 H1 H2 H3 H4
 go_wp2_with fail
 go_region
 clear hcp
 go_wp2_with fail
 refine bodyPost_ret (v := words9 (a * 2 ^ s)) (by rw [results_cell1 rfl]; go_simp; try rfl) rfl ⟨rfl, ?_⟩
 exact (below_set8 (b := S + 1) HB.out (by omega) _ _ _ _ _ _ _ _).setCell (p := ⟨S + 1, 8, none⟩) (by show S ≤ S + 1; omega) _
end Go.Proofs.YtgkhjeefcflmcaaGreatDoor
namespace Go.Proofs.YtgkhjeefcflmcaaGreatDoor
open Go.RowKit Go.Sort
set_option maxRecDepth 100000 in
set_option maxHeartbeats 4000000 in
theorem div64_zero (l y : Nat) (w : World) (hy : 0 < y) (hy2 : y < 18446744073709551616) (hl : l < 18446744073709551616) :
  Calls Tryz.prog 259 #[.int .u64 0, .int .u64 (l : Int), .int .u64 (y : Int)] w fun e w' => e = .returned (.tuple #[.int .u64 ((l / y : Nat) : Int), .int .u64 ((l % y : Nat) : Int)]) ∧ ∃ m, w' = w.drewN m := by
 have e1 : ((y : Int) == 0) = false := by simp; omega
 have e2 : decide ((y : Int) ≤ 0) = false := by simp; omega
 obtain ⟨q, hq⟩ : ∃ q, l / y = q := ⟨_, rfl⟩
 obtain ⟨r, hr⟩ : ∃ r, l % y = r := ⟨_, rfl⟩
 have hq2 : q ≤ l := by rw [← hq]; exact Nat.div_le_self _ _
 have hr2 : r < y := by rw [← hr]; exact Nat.mod_lt _ hy
 have kq : (l : Int).tdiv (y : Int) = (q : Int) := by rw [← hq]; rfl
 have kq' : (l : Int) / (y : Int) = (q : Int) := by rw [← hq]; exact (Int.natCast_ediv _ _).symm
 have kqw : IntKind.u64.wrap (q : Int) = (q : Int) := by rw [IntKind.wrap_u64]; omega
 have kr : (l : Int).tmod (y : Int) = (r : Int) := by rw [← hr]; rfl
 have kr' : (l : Int) % (y : Int) = (r : Int) := by rw [← hr]; exact (Int.natCast_emod _ _).symm
 have krw : IntKind.u64.wrap (r : Int) = (r : Int) := by rw [IntKind.wrap_u64]; omega
 rw [hq, hr]
 clear hq hr
 go_enter Tryz.func259, Tryz.ntmps259
 go_wp2_with fail
 go_quiet (fail)
 go_wp2_with fail
 go_ret2
 exact ⟨rfl, _, rfl⟩
theorem div64_all (h l y : Nat) (w : World) (hy : 9223372036854775808 ≤ y) (hy2 : y < 18446744073709551616) (hh : h < y) (hl : l < 18446744073709551616) :
  Calls Tryz.prog 259 #[.int .u64 (h : Int), .int .u64 (l : Int), .int .u64 (y : Int)] w fun e w' =>
   e = .returned (.tuple #[.int .u64 (((h * 18446744073709551616 + l) / y : Nat) : Int), .int .u64 (((h * 18446744073709551616 + l) % y : Nat) : Int)]) ∧ ∃ m, w' = w.drewN m := by
 rcases Nat.eq_zero_or_pos h with h0 | h0
 ·subst h0
  rw [Nat.zero_mul, Nat.zero_add]
  exact div64_zero l y w (by omega) hy2 hl
 ·exact (div64_run h l y w hy hy2 hh hl h0).mono fun _ _ ⟨e, hw⟩ => ⟨e, 0, hw⟩
def tcar (t D i : Nat) : Nat := car 18446744073709551616 t D 0 0 0 i
theorem tcar_step (t D i : Nat) : (wd D i * t + tcar t D i) % 18446744073709551616 = wd (t * D) i ∧ (wd D i * t + tcar t D i) / 18446744073709551616 = tcar t D (i + 1) := by
 have h1 := lin_mod (B := 18446744073709551616) (by decide) t D 0 0 0 i
 have h2 := lin_div (B := 18446744073709551616) (by decide) t D 0 0 0 i
 simp only [Nat.zero_mul, Nat.add_zero, Nat.mul_comm t (dig _ _ _)] at h1 h2
 exact ⟨h1, h2⟩
theorem tcar_zero (t D : Nat) : tcar t D 0 = 0 := car_zero _ _ _ _ _ _
theorem tcar_lt {t D i : Nat} (ht : t < 18446744073709551616) : tcar t D i < 18446744073709551616 := car_lt (by decide) t D 0 0 0 i (by omega) (by decide)
theorem tcar_top {t D n : Nat} (ht : t < 18446744073709551616) (hD : D < 18446744073709551616 ^ n) : tcar t D n = wd (t * D) n := by
 have h1 := car_top 18446744073709551616 t 0 0 n (b := 0) hD (Nat.pow_pos (by decide))
 simp only [Nat.zero_mul, Nat.add_zero] at h1
 have h2 := (tcar_step t D n).1
 have h3 : wd D n = 0 := dig_high hD
 rw [h3, Nat.zero_mul, Nat.zero_add, Nat.mod_eq_of_lt (tcar_lt ht)] at h2
 exact h2
theorem tD_lt {t D n : Nat} (ht : t < 18446744073709551616) (hD : D < 18446744073709551616 ^ n) : t * D < 18446744073709551616 ^ (n + 1) := by
 rw [Nat.pow_succ, Nat.mul_comm]
 exact Nat.mul_lt_mul'' hD ht
def lessN (R P : Nat) : Nat := if R < P then 1 else 0
def subW (R P k : Nat) : Nat := if R < P then R + 18446744073709551616 ^ k - P else R - P
theorem subW_eq {R P k : Nat} (hP : P < 18446744073709551616 ^ k) : subW R P k + P = R + (if R < P then 1 else 0) * 18446744073709551616 ^ k := by
 unfold subW
 split
 ·rw [Nat.one_mul]; omega
 ·rw [Nat.zero_mul]; omega
theorem subW_step {R P k i : Nat} (hP : P < 18446744073709551616 ^ k) (hi : i < k) :
  (wd R i + 18446744073709551616 - wd P i - bw R P i) % 18446744073709551616 = wd (subW R P k) i ∧ bor (wd R i) (wd P i) (bw R P i) = bw R P (i + 1) :=
 bor_step (sub_step (B := 18446744073709551616) (by decide) (subW_eq hP) hi) (wd_lt _ _) (brw_le _ _ _ _)
def ButR (w w' : World) (b o N : Nat) : Prop := (∀ x : Addr, ¬ (x.block = b ∧ o ≤ x.off ∧ x.off < o + N) → w'.cell? x = w.cell? x ∧ w'.frozen? x = w.frozen? x) ∧ (∀ B w0, B ≤ b → Below B w0 w → Below B w0 w') ∧ w'.heap.size = w.heap.size
theorem ButR.refl (w : World) (b o N : Nat) : ButR w w b o N := ⟨fun _ _ => ⟨rfl, rfl⟩, fun _ _ _ h => h, rfl⟩
theorem ButR.trans {u v w : World} {b o N : Nat} (h : ButR u v b o N) (k : ButR v w b o N) : ButR u w b o N :=
 ⟨fun x hx => ⟨(k.1 x hx).1.trans (h.1 x hx).1, (k.1 x hx).2.trans (h.1 x hx).2⟩, fun B w0 hB hb => k.2.1 B w0 hB (h.2.1 B w0 hB hb), k.2.2.trans h.2.2⟩
theorem ButR.setCell (w : World) {b o N i : Nat} (v : Value) (hi : i < N) : ButR w (w.setCell ⟨b, o + i, none⟩ v) b o N :=
 ⟨fun _ hx => ⟨World.cell?_setCell_other _ _ _ _ (fun e => hx (by rw [← e]; exact ⟨rfl, Nat.le_add_right _ _, by show o + i < o + N; omega⟩)), by rw [World.frozen?_setCell]⟩, fun _ _ hB h => h.setCell (p := ⟨b, o + i, none⟩) hB _, by simp⟩
theorem WordsF.butR {w w' : World} {b c o q N k : Nat} {f : Nat → Nat} (h : WordsF w b o f k) (hw : ButR w w' c q N) (hne : b ≠ c) : WordsF w' b o f k := fun i hi =>
 ⟨(hw.1 ⟨b, o + i, none⟩ (fun e => hne e.1)).1.trans (h i hi).1, (hw.1 ⟨b, o + i, none⟩ (fun e => hne e.1)).2.trans (h i hi).2⟩
set_option maxRecDepth 100000 in
set_option maxHeartbeats 8000000 in
theorem subtractTimes_run (b o c1 d p c2 n N R D t : Nat) (w : World) (hN : Hid (N = n + 1)) (hn : n ≤ 8) (ht : t < 18446744073709551616) (hR : Hid (R < 18446744073709551616 ^ N)) (hD : Hid (D < 18446744073709551616 ^ n)) (hbd : b ≠ d)
  (hw : Hid (WordsAt w b o R N)) (hv : Hid (WordsAt w d p D n)) :
  Calls Tryz.prog 260 #[.slice (some ⟨b, o, none⟩) N c1, .slice (some ⟨d, p, none⟩) n c2, .int .u64 (t : Int)] w fun e w' =>
   e = .returned (.int .u64 (lessN R (t * D) : Int)) ∧ WordsAt w' b o (subW R (t * D) N) N ∧ ButR w w' b o N := by
 obtain ⟨P, hP⟩ : ∃ P, t * D = P := ⟨_, rfl⟩
 have HP := Lib.hid hP
 have HPL : Hid (P < 18446744073709551616 ^ N) := by show _ < _; rw [hN.out, ← hP]; exact tD_lt ht hD.out
 rw [hP]
 clear hP
 go_enter Tryz.func260, Tryz.ntmps260
 go_wp2_with fail
 go_loopg [7, 9, 14] (n + 1) (fun h s7 s9 s14 wr => ∃ (i x c : Nat) (f : Nat → Nat), s7 = .int .u64 (x : Int) ∧ s9 = .int .u64 (c : Int) ∧ s14 = .int .i64 (i : Int) ∧ Hid (i ≤ n ∧ n < i + h) ∧ Hid (x = tcar t D i) ∧ Hid (c = bw R P i) ∧ Hid (WordsF wr b o f N) ∧ Hid ((∀ j, j < i → f j = wd (subW R P N) j) ∧ (∀ j, i ≤ j → f j = wd R j)) ∧ Hid (ButR w wr b o N))
 case atStart => exact ⟨0, 0, 0, wd R, rfl, rfl, rfl, by show _ ∧ _; omega, (tcar_zero t D).symm, (brw_zero _ R P).symm, hw, ⟨fun j hj => absurd hj (by omega), fun j _ => rfl⟩, ButR.refl w b o N⟩
 case round =>
  obtain ⟨i, x, c, f, rfl, rfl, rfl, HI, HX, HC, HF, HE, HW⟩ := hrel
  by_cases hlt : i < n
  ·have hltz : (i : Int) < (n : Int) := by omega
   have hiN : i < N := by have := hN.out; omega
   have hiNz : (i : Int) < (N : Int) := by omega
   have cd := ((hv.out.butR HW.out (fun e => hbd e.symm)) i hlt).1
   have cf := HF.out i hiN
   have hfi := HE.out.2 i (Nat.le_refl _)
   obtain ⟨y, hy⟩ : ∃ y, wd D i = y := ⟨_, rfl⟩
   obtain ⟨z, hz⟩ : ∃ z, f i = z := ⟨_, rfl⟩
   rw [hy] at cd
   rw [hz] at cf hfi
   obtain ⟨cf1, cf2⟩ := cf
   obtain ⟨lo, hlo⟩ : ∃ lo, wd P i = lo := ⟨_, rfl⟩
   obtain ⟨x2, hx2⟩ : ∃ x2, tcar t D (i + 1) = x2 := ⟨_, rfl⟩
   have HM : Hid (∀ W, Calls Tryz.prog 186 #[.int .u64 (y : Int), .int .u64 (t : Int), .int .u64 (x : Int), .int .u64 0] W fun e w' => e = .returned (.tuple #[.int .u64 (x2 : Int), .int .u64 (lo : Int)]) ∧ w' = W) := fun W => by
    have h1 := multiplyAdd_run y t x 0 W (hy ▸ wd_lt D i) ht (HX.out ▸ tcar_lt ht) (by decide)
    have h2 := tcar_step t D i
    rw [← HX.out, hy, HP.out, hlo, hx2] at h2
    rw [Nat.add_zero, h2.1, h2.2] at h1
    exact h1
   obtain ⟨s, hs⟩ : ∃ s, (z + 18446744073709551616 - lo - c) % 18446744073709551616 = s := ⟨_, rfl⟩
   obtain ⟨c', hc'⟩ : ∃ c', bor z lo c = c' := ⟨_, rfl⟩
   have hsub := sub64_run z lo c (HC.out ▸ brw_le _ R P i)
   rw [hs, hc'] at hsub
   have hst := subW_step (R := R) HPL.out hiN
   rw [← hfi, hlo, ← HC.out, hs, hc'] at hst
   have HS := Lib.hid hst.1
   have HC2 := Lib.hid hst.2
   have HX2 := Lib.hid hx2
   clear hy hz hlo hx2 hs hc' hst hfi
   go_wp2_with fail
   refine (HM.out _).mono ?_
   rintro e w1 ⟨rfl, rfl⟩
   go_wp2_with fail
   go_roundg (n - i)
   case measure => have := HI.out; omega
   case rel =>
    refine ⟨i + 1, x2, c', updF f i s, rfl, rfl, by go_num, by show _ ∧ _; have := HI.out; omega, HX2.out.symm, HC2, HF.out.upd hiN s, ⟨fun j hj => ?_, fun j hj => ?_⟩, HW.out.trans (ButR.setCell _ _ hiN)⟩
    ·by_cases e : j = i
     ·rw [e, updF_same]; exact HS.out
     ·rw [updF_other e]; exact HE.out.1 j (by omega)
    ·rw [updF_other (by omega)]; exact HE.out.2 j (by omega)
  ·obtain rfl : i = n := by have := HI.out; omega
   have hiN : i < N := by have := hN.out; omega
   have hiNz : (i : Int) < (N : Int) := by omega
   have cf := HF.out i hiN
   have hfi := HE.out.2 i (Nat.le_refl _)
   obtain ⟨z, hz⟩ : ∃ z, f i = z := ⟨_, rfl⟩
   rw [hz] at cf hfi
   obtain ⟨cf1, cf2⟩ := cf
   have hxl : x = wd P i := by rw [HX.out, tcar_top ht hD.out, HP.out]
   obtain ⟨s, hs⟩ : ∃ s, (z + 18446744073709551616 - x - c) % 18446744073709551616 = s := ⟨_, rfl⟩
   obtain ⟨c', hc'⟩ : ∃ c', bor z x c = c' := ⟨_, rfl⟩
   have hsub := sub64_run z x c (HC.out ▸ brw_le _ R P i)
   rw [hs, hc'] at hsub
   have hst := subW_step (R := R) HPL.out hiN
   rw [← hfi, ← hxl, ← HC.out, hs, hc'] at hst
   have HV : Hid (c' = lessN R P) := by
    show _ = _
    rw [hst.2, ← hN.out]
    exact brw_top _ _ hR.out HPL.out
   have HFW : Hid (WordsAt (wr.setCell ⟨b, o + i, none⟩ (.int .u64 (s : Int))) b o (subW R P N) N) := (HF.out.upd hiN s).ext fun j hj => by
    by_cases e : j = i
    ·rw [e, updF_same]; exact hst.1
    ·rw [updF_other e]; exact HE.out.1 j (by have := hN.out; omega)
   clear hz hs hc' hst hfi hxl
   go_wp2_with fail
   go_ret
   exact ⟨ret_int (by rw [HV.out]), HFW.out, HW.out.trans (ButR.setCell _ _ hiN)⟩
set_option maxRecDepth 100000 in
set_option maxHeartbeats 8000000 in
theorem addTo_run (b o c1 d p c2 n N R D : Nat) (w : World) (hN : Hid (N = n + 1)) (hn : n ≤ 8) (hR : Hid (R < 18446744073709551616 ^ N)) (hD : Hid (D < 18446744073709551616 ^ n)) (hbd : b ≠ d)
  (hw : Hid (WordsAt w b o R N)) (hv : Hid (WordsAt w d p D n)) :
  Calls Tryz.prog 261 #[.slice (some ⟨b, o, none⟩) N c1, .slice (some ⟨d, p, none⟩) n c2] w fun e w' =>
   e = .returned (.int .u64 (((R + D) / 18446744073709551616 ^ N : Nat) : Int)) ∧ WordsAt w' b o (R + D) N ∧ ButR w w' b o N := by
 obtain ⟨V, hV⟩ : ∃ V, (R + D) / 18446744073709551616 ^ N = V := ⟨_, rfl⟩
 have HVV := Lib.hid hV
 rw [hV]
 clear hV
 go_enter Tryz.func261, Tryz.ntmps261
 go_wp2_with fail
 go_loopg [5, 10] (n + 1) (fun h s5 s10 wr => ∃ (i c : Nat) (f : Nat → Nat), s5 = .int .u64 (c : Int) ∧ s10 = .int .i64 (i : Int) ∧ Hid (i ≤ n ∧ n < i + h) ∧ Hid (c = cy R D i) ∧ Hid (WordsF wr b o f N) ∧ Hid ((∀ j, j < i → f j = wd (R + D) j) ∧ (∀ j, i ≤ j → f j = wd R j)) ∧ Hid (ButR w wr b o N))
 case atStart => exact ⟨0, 0, wd R, rfl, rfl, by show _ ∧ _; omega, (cy_zero R D).symm, hw, ⟨fun j hj => absurd hj (by omega), fun j _ => rfl⟩, ButR.refl w b o N⟩
 case round =>
  obtain ⟨i, c, f, rfl, rfl, HI, HC, HF, HE, HW⟩ := hrel
  by_cases hlt : i < n
  ·have hltz : (i : Int) < (n : Int) := by omega
   have hiN : i < N := by have := hN.out; omega
   have hiNz : (i : Int) < (N : Int) := by omega
   have cd := ((hv.out.butR HW.out (fun e => hbd e.symm)) i hlt).1
   have cf := HF.out i hiN
   have hfi := HE.out.2 i (Nat.le_refl _)
   obtain ⟨y, hy⟩ : ∃ y, wd D i = y := ⟨_, rfl⟩
   obtain ⟨z, hz⟩ : ∃ z, f i = z := ⟨_, rfl⟩
   rw [hy] at cd
   rw [hz] at cf hfi
   obtain ⟨cf1, cf2⟩ := cf
   obtain ⟨s, hs⟩ : ∃ s, (z + y + c) % 18446744073709551616 = s := ⟨_, rfl⟩
   obtain ⟨c', hc'⟩ : ∃ c', (z + y + c) / 18446744073709551616 = c' := ⟨_, rfl⟩
   have hadd := add64_run z y c (HC.out ▸ cy_le R D i)
   rw [hs, hc'] at hadd
   have HS : Hid (s = wd (R + D) i) := by show _ = _; rw [← hs, hfi, ← hy, HC.out]; exact cy_sum R D i
   have HC2 : Hid (c' = cy R D (i + 1)) := by show _ = _; rw [← hc', hfi, ← hy, HC.out]; exact cy_next R D i
   clear hy hz hs hc' hfi
   go_wp2_with fail
   go_roundg (n - i)
   case measure => have := HI.out; omega
   case rel =>
    refine ⟨i + 1, c', updF f i s, rfl, by go_num, by show _ ∧ _; have := HI.out; omega, HC2, HF.out.upd hiN s, ⟨fun j hj => ?_, fun j hj => ?_⟩, HW.out.trans (ButR.setCell _ _ hiN)⟩
    ·by_cases e : j = i
     ·rw [e, updF_same]; exact HS.out
     ·rw [updF_other e]; exact HE.out.1 j (by omega)
    ·rw [updF_other (by omega)]; exact HE.out.2 j (by omega)
  ·obtain rfl : i = n := by have := HI.out; omega
   have hiN : i < N := by have := hN.out; omega
   have hiNz : (i : Int) < (N : Int) := by omega
   have cf := HF.out i hiN
   have hfi := HE.out.2 i (Nat.le_refl _)
   obtain ⟨z, hz⟩ : ∃ z, f i = z := ⟨_, rfl⟩
   rw [hz] at cf hfi
   obtain ⟨cf1, cf2⟩ := cf
   have hy : wd D i = 0 := dig_high hD.out
   obtain ⟨s, hs⟩ : ∃ s, (z + c) % 18446744073709551616 = s := ⟨_, rfl⟩
   obtain ⟨c', hc'⟩ : ∃ c', (z + c) / 18446744073709551616 = c' := ⟨_, rfl⟩
   have hadd : ∀ W, (callFunc 208 #[.int .u64 (z : Int), .int .u64 0, .int .u64 (c : Int)]).run Tryz.prog W = .ok (.value (.tuple #[.int .u64 (s : Int), .int .u64 (c' : Int)])) W := fun W => by
    have := add64_run z 0 c (HC.out ▸ cy_le R D i) W
    rwa [Nat.add_zero, hs, hc'] at this
   have h1 := cy_sum R D i
   have h2 := cy_next R D i
   rw [← hfi, hy, Nat.add_zero, ← HC.out] at h1 h2
   rw [hs] at h1
   rw [hc'] at h2
   have HV : Hid (c' = V) := by
    show _ = _
    rw [h2, ← hN.out, ← HVV.out]
    have := car_top 18446744073709551616 1 1 0 N hR.out (b := D) (Nat.lt_of_lt_of_le hD.out (Nat.pow_le_pow_right (by decide) (by have := hN.out; omega)))
    simpa only [Nat.one_mul, Nat.add_zero, cy] using this
   have HFW : Hid (WordsAt (wr.setCell ⟨b, o + i, none⟩ (.int .u64 (s : Int))) b o (R + D) N) := (HF.out.upd hiN s).ext fun j hj => by
    by_cases e : j = i
    ·rw [e, updF_same]; exact h1
    ·rw [updF_other e]; exact HE.out.1 j (by have := hN.out; omega)
   clear hz hs hc' h1 h2 hfi hy
   go_wp2_with fail
   go_ret
   exact ⟨ret_int (by rw [HV.out]), HFW.out, HW.out.trans (ButR.setCell _ _ hiN)⟩
end Go.Proofs.YtgkhjeefcflmcaaGreatDoor
