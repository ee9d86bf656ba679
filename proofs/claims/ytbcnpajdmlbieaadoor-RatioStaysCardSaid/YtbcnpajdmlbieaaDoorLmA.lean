/-
  Stage 7: limb's compare, add, subtract.
-/
import Derived.Test.YtbcnpajdmlbieaaDoorLmBase
import Derived.Laws.ResultCell
namespace Go.Proofs.YtbcnpajdmlbieaaDoor
open Go.RowKit Go.Sort

theorem pow8 (n : Nat) (h : Fits n) : n / 18446744073709551616 ^ 8 = 0 := Nat.div_eq_of_lt h
theorem cmpN_lt {a b : Nat} (h : a < b) : cmpN a b = -1 := if_pos h
theorem cmpN_gt {a b : Nat} (h : b < a) : cmpN a b = 1 := by unfold cmpN; rw [if_neg (by omega), if_pos h]
theorem cmpN_eq {a b : Nat} (h : a = b) : cmpN a b = 0 := by subst h; simp [cmpN]
theorem cmpN_dig {a b i : Nat} (h : a / 18446744073709551616 ^ (i + 1) = b / 18446744073709551616 ^ (i + 1)) (hd : ¬ wd a i = wd b i) : cmpN (wd a i) (wd b i) = cmpN a b := by
  rcases Nat.lt_or_ge (wd a i) (wd b i) with h1 | h1
  · rw [cmpN_lt h1, cmpN_lt (lt_of_dig (by decide) h h1)]
  · have h2 : wd b i < wd a i := by omega
    rw [cmpN_gt h2, cmpN_gt (lt_of_dig (by decide) h.symm h2)]
theorem two_boxes (w : World) (a b : Nat) (T U : TypeId) : WordsAt ((w.alloc (boxO a T)).alloc (boxO b U)) w.heap.size 0 a 8 ∧ WordsAt ((w.alloc (boxO a T)).alloc (boxO b U)) (w.heap.size + 1) 0 b 8 ∧ Below w.heap.size w ((w.alloc (boxO a T)).alloc (boxO b U)) ∧ ((w.alloc (boxO a T)).alloc (boxO b U)).heap.size = w.heap.size + 2 := by
  refine ⟨(WordsAt.new w a T).alloc (by simp) _, ?_, (below_alloc w _).alloc (by simp) _, by simp⟩
  have := WordsAt.new (w.alloc (boxO a T)) b U
  simpa using this
set_option maxRecDepth 100000 in
set_option maxHeartbeats 4000000 in
theorem compare_run (a b : Nat) (c : Int) (w : World) (ha : Hid (Fits a)) (hb : Hid (Fits b)) (hc : Hid (cmpN a b = c)) :
    Calls Tryd.prog 31 #[wordsV a, wordsV b] w fun e w' => e = .returned (.int .i64 c) ∧ Below w.heap.size w w' := by
  have T := Lib.hid (two_boxes w a b 61 61)
  unfold wordsV
  go_enter Tryd.func31, Tryd.ntmps31
  go_wp2_with fail
  go_loopg [5] 10 (fun h s5 wr => ∃ (z : Int) (j : Nat), s5 = .int .i64 z ∧ Hid (z = (j : Int) - 1 ∧ j ≤ 8 ∧ j < h) ∧ Hid (a / 18446744073709551616 ^ j = b / 18446744073709551616 ^ j) ∧ Hid (WordsAt wr w.heap.size 0 a 8) ∧ Hid (WordsAt wr (w.heap.size + 1) 0 b 8) ∧ Hid (Below w.heap.size w wr))
  case atStart => exact ⟨7, 8, rfl, by show _ ∧ _; omega, by show _ = _; rw [pow8 a ha.out, pow8 b hb.out], T.out.1, T.out.2.1, T.out.2.2.1⟩
  case round =>
    clear T
    obtain ⟨z, j, rfl, HJ, HE, HA, HB, HW⟩ := hrel
    cases j with
    | zero =>
      obtain rfl : z = -1 := by have := HJ.out.1; omega
      have HC : Hid (c = 0) := by
        have := HE.out
        rw [Nat.pow_zero, Nat.div_one, Nat.div_one] at this
        exact hc.out.symm.trans (cmpN_eq this)
      go_wp2_with fail
      go_ret
      exact ⟨ret_int HC.out.symm, HW.out⟩
    | succ i =>
      obtain rfl : z = (i : Int) := by have := HJ.out.1; omega
      have hi8 : i < 8 := by have := HJ.out; omega
      have hz : (i : Int) < 8 := by omega
      have ca := (HA.out i hi8).1
      have cb := (HB.out i hi8).1
      rw [Nat.zero_add] at ca cb
      by_cases hd : wd a i = wd b i
      · have hdz : ((wd a i : Int) != (wd b i : Int)) = false := by rw [hd]; simp
        have HN : Hid (a / 18446744073709551616 ^ i = b / 18446744073709551616 ^ i) := div_eq_step HE.out hd
        go_wp2_with fail
        go_quiet (fail)
        go_wp2_with fail
        go_roundg (i + 1)
        case measure => have := HJ.out; omega
        case rel => exact ⟨(i : Int) - 1, i, by go_num, by show _ ∧ _; have := HJ.out; omega, HN, HA, HB, HW.out.drewN _⟩
      · have hdz : ((wd a i : Int) != (wd b i : Int)) = true := by simp; omega
        have HC : Hid (cmpN (wd a i) (wd b i) = c) := (cmpN_dig HE.out hd).trans hc.out
        have HCC : Hid (∀ W, Calls Tryd.prog 40 #[.int .u64 (wd a i : Int), .int .u64 (wd b i : Int)] W fun e w' => e = .returned (.int .i64 c) ∧ ∃ m, w' = W.drewN m) := fun W =>
          (cmpU_run (wd a i) (wd b i) W).mono fun e w' ⟨he, hw⟩ => ⟨by rw [he, HC.out], 0, hw.symm⟩
        go_wp2_with fail
        go_quiet (fail)
        go_wp2_with fail
        replace ca : (wr.drewN nq).cell? _ = _ := ca
        replace cb : (wr.drewN nq).cell? _ = _ := cb
        have HW2 : Hid (Below w.heap.size w (wr.drewN nq)) := HW.out.drewN nq
        clear HW HA HB
        generalize wr.drewN nq = wq at *
        go_quiet (first | (go_at_call 40; refine Calls.quiet_of (HCC.out _)) | fail)
        go_wp2_with fail
        go_ret
        exact ⟨rfl, HW2.out.drewN _⟩
/-- What a sum's carry into place i is. -/
def cy (a b i : Nat) : Nat := car 18446744073709551616 1 a 1 b 0 i
theorem cy_le (a b i : Nat) : cy a b i ≤ 1 := Nat.le_of_lt_succ (car_lt (by decide) 1 a 1 b 0 i (Nat.le_refl 2) (by decide))
theorem cy_zero (a b : Nat) : cy a b 0 = 0 := car_zero _ _ _ _ _ _
theorem cy_sum (a b i : Nat) : (wd a i + wd b i + cy a b i) % 18446744073709551616 = wd (a + b) i := by
  have := lin_mod (B := 18446744073709551616) (by decide) 1 a 1 b 0 i
  unfold wd cy
  simpa only [Nat.one_mul, Nat.add_zero] using this
theorem cy_next (a b i : Nat) : (wd a i + wd b i + cy a b i) / 18446744073709551616 = cy a b (i + 1) := by
  have := lin_div (B := 18446744073709551616) (by decide) 1 a 1 b 0 i
  unfold wd cy
  simpa only [Nat.one_mul, Nat.add_zero] using this
theorem cy_top {a b : Nat} (ha : Fits a) (hb : Fits b) : cy a b 8 = (a + b) / 18446744073709551616 ^ 8 := by
  have := car_top 18446744073709551616 1 1 0 8 ha hb
  unfold cy
  simpa only [Nat.one_mul, Nat.add_zero] using this
theorem three_boxes (w : World) (a b : Nat) (T U V : TypeId) : WordsAt (((w.alloc (boxO a T)).alloc (boxO b U)).alloc (boxZ V)) w.heap.size 0 a 8 ∧ WordsAt (((w.alloc (boxO a T)).alloc (boxO b U)).alloc (boxZ V)) (w.heap.size + 1) 0 b 8 ∧ WordsAt (((w.alloc (boxO a T)).alloc (boxO b U)).alloc (boxZ V)) (w.heap.size + 1 + 1) 0 0 8 ∧ Below w.heap.size w (((w.alloc (boxO a T)).alloc (boxO b U)).alloc (boxZ V)) := by
  obtain ⟨h1, h2, h3, h4⟩ := two_boxes w a b T U
  refine ⟨h1.alloc (by omega) _, h2.alloc (by omega) _, ?_, h3.alloc (by omega) _⟩
  have := WordsAt.zero ((w.alloc (boxO a T)).alloc (boxO b U)) V
  rwa [h4] at this
set_option maxRecDepth 100000 in
set_option maxHeartbeats 4000000 in
theorem add_run (a b : Nat) (w : World) (ha : Hid (Fits a)) (hb : Hid (Fits b)) :
    Calls Tryd.prog 35 #[wordsV a, wordsV b] w fun e w' => e = .returned (.tuple #[wordsV (a + b), .int .u64 (((a + b) / 18446744073709551616 ^ 8 : Nat) : Int)]) ∧ Below w.heap.size w w' := by
  have h2 : w.heap.size ≤ w.heap.size + 1 + 1 := by omega
  have T := Lib.hid (three_boxes w a b 61 61 61)
  unfold wordsV
  go_enter Tryd.func35, Tryd.ntmps35
  go_wp2_with fail
  go_loopg [5, 7] 10 (fun h s5 s7 wr => ∃ (i c : Nat) (f : Nat → Nat), s5 = .int .u64 (c : Int) ∧ s7 = .int .i64 (i : Int) ∧ Hid (i ≤ 8 ∧ 9 ≤ i + h) ∧ Hid (c = cy a b i) ∧ Hid (WordsAt wr w.heap.size 0 a 8) ∧ Hid (WordsAt wr (w.heap.size + 1) 0 b 8) ∧ Hid (WordsF wr (w.heap.size + 1 + 1) 0 f 8) ∧ Hid (∀ j, j < i → f j = wd (a + b) j) ∧ Hid (Below w.heap.size w wr))
  case atStart => exact ⟨0, 0, wd 0, rfl, rfl, by show _ ∧ _; omega, (cy_zero a b).symm, T.out.1, T.out.2.1, T.out.2.2.1, fun j hj => absurd hj (by omega), T.out.2.2.2⟩
  case round =>
    clear T
    obtain ⟨i, c, f, rfl, rfl, HI, HC, HA, HB, HF, HE, HW⟩ := hrel
    by_cases hlt : i < 8
    · have hltz : (i : Int) < 8 := by omega
      obtain ⟨x, hx⟩ : ∃ x, wd a i = x := ⟨_, rfl⟩
      obtain ⟨y, hy⟩ : ∃ y, wd b i = y := ⟨_, rfl⟩
      have ca := (HA.out i hlt).1
      have cb := (HB.out i hlt).1
      have cf := HF.out i hlt
      rw [Nat.zero_add] at ca cb cf
      rw [hx] at ca
      rw [hy] at cb
      obtain ⟨cf1, cf2⟩ := cf
      obtain ⟨s, hs⟩ : ∃ s, (x + y + c) % 18446744073709551616 = s := ⟨_, rfl⟩
      obtain ⟨d, hd⟩ : ∃ d, (x + y + c) / 18446744073709551616 = d := ⟨_, rfl⟩
      have hadd := add64_run x y c (HC.out ▸ cy_le a b i)
      rw [hs, hd] at hadd
      have HS : Hid (s = wd (a + b) i) := by show _ = _; rw [← hs, ← hx, ← hy, HC.out]; exact cy_sum a b i
      have HD : Hid (d = cy a b (i + 1)) := by show _ = _; rw [← hd, ← hx, ← hy, HC.out]; exact cy_next a b i
      clear hs hd hx hy
      go_wp2_with fail
      go_region
      go_wp2_with fail
      go_roundg (8 - i)
      case measure => have := HI.out; omega
      case rel =>
        have hF := HF.out.upd hlt s
        rw [Nat.zero_add] at hF
        refine ⟨i + 1, d, updF f i s, rfl, by go_num, by show _ ∧ _; have := HI.out; omega, HD, HA.out.set ⟨w.heap.size + 1 + 1, i, none⟩ _ (by show w.heap.size + 1 + 1 ≠ w.heap.size; omega), HB.out.set ⟨w.heap.size + 1 + 1, i, none⟩ _ (by show w.heap.size + 1 + 1 ≠ w.heap.size + 1; omega), hF, fun j hj => ?_, (HW.out.setCell (p := ⟨w.heap.size + 1 + 1, _, none⟩) h2 _).drew⟩
        by_cases e : j = i
        · rw [e, updF_same]; exact HS.out
        · rw [updF_other e]; exact HE.out j (by omega)
    · obtain rfl : i = 8 := by have := HI.out; omega
      have HX := HF.out.ext HE.out
      have HC8 : Hid (c = (a + b) / 18446744073709551616 ^ 8) := by show _ = _; rw [HC.out, cy_top ha.out hb.out]
      have c0 := HX 0 (by decide)
      have c1 := HX 1 (by decide)
      have c2 := HX 2 (by decide)
      have c3 := HX 3 (by decide)
      have c4 := HX 4 (by decide)
      have c5 := HX 5 (by decide)
      have c6 := HX 6 (by decide)
      have c7 := HX 7 (by decide)
      simp only [Nat.zero_add] at c0 c1 c2 c3 c4 c5 c6 c7
      obtain ⟨c0, d0⟩ := c0
      obtain ⟨c1, d1⟩ := c1
      obtain ⟨c2, d2⟩ := c2
      obtain ⟨c3, d3⟩ := c3
      obtain ⟨c4, d4⟩ := c4
      obtain ⟨c5, d5⟩ := c5
      obtain ⟨c6, d6⟩ := c6
      obtain ⟨c7, d7⟩ := c7
      clear HA HB HF HE HX HC
      go_wp2_with fail
      refine bodyPost_ret (v := .tuple #[wordsV (a + b), .int .u64 (c : Int)]) (by rw [results_cell_tmp rfl]; go_simp; try rfl) rfl ⟨by rw [HC8.out]; rfl, ?_⟩
      exact ((((((((HW.out.setCell (p := ⟨w.heap.size + 1 + 1, _, none⟩) h2 _).setCell (p := ⟨w.heap.size + 1 + 1, _, none⟩) h2 _).setCell (p := ⟨w.heap.size + 1 + 1, _, none⟩) h2 _).setCell (p := ⟨w.heap.size + 1 + 1, _, none⟩) h2 _).setCell (p := ⟨w.heap.size + 1 + 1, _, none⟩) h2 _).setCell (p := ⟨w.heap.size + 1 + 1, _, none⟩) h2 _).setCell (p := ⟨w.heap.size + 1 + 1, _, none⟩) h2 _).setCell (p := ⟨w.heap.size + 1 + 1, _, none⟩) h2 _)
end Go.Proofs.YtbcnpajdmlbieaaDoor
