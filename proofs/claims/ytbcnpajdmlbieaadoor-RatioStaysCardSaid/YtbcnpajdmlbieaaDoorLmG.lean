/-
  Stage 7: math/bits.Div64 also where the high word is 0; limb's subtractTimes and addTo.
-/
import Derived.Test.YtbcnpajdmlbieaaDoorLmF
import Derived.Test.YtbcnpajdmlbieaaDoorLmE
namespace Go.Proofs.YtbcnpajdmlbieaaDoor
open Go.RowKit Go.Sort

set_option maxRecDepth 100000 in
set_option maxHeartbeats 4000000 in
theorem div64_zero (l y : Nat) (w : World) (hy : 0 < y) (hy2 : y < 18446744073709551616) (hl : l < 18446744073709551616) :
    Calls Tryd.prog 57 #[.int .u64 0, .int .u64 (l : Int), .int .u64 (y : Int)] w fun e w' => e = .returned (.tuple #[.int .u64 ((l / y : Nat) : Int), .int .u64 ((l % y : Nat) : Int)]) ∧ ∃ m, w' = w.drewN m := by
  have e1 : ((y : Int) == 0) = false := by simp; omega
  have e2 : decide ((y : Int) ≤ 0) = false := by simp; omega
  obtain ⟨q, hq⟩ : ∃ q, l / y = q := ⟨_, rfl⟩
  obtain ⟨r, hr⟩ : ∃ r, l % y = r := ⟨_, rfl⟩
  have hq2 : q ≤ l := by rw [← hq]; exact Nat.div_le_self _ _
  have hr2 : r < y := by rw [← hr]; exact Nat.mod_lt _ hy
  have kq : (l : Int).tdiv (y : Int) = (q : Int) := by rw [← hq]; rfl
  have kq' : (l : Int) / (y : Int) = (q : Int) := by rw [← hq]; exact (Int.natCast_ediv _ _).symm
  have kqw : IntKind.u64.wrap (q : Int) = (q : Int) := by rw [IntKind.wrap_u64]; omega
  have kr : (l : Int).tmod (y : Int) = (r : Int) := by rw [← hr]; rfl
  have kr' : (l : Int) % (y : Int) = (r : Int) := by rw [← hr]; exact (Int.natCast_emod _ _).symm
  have krw : IntKind.u64.wrap (r : Int) = (r : Int) := by rw [IntKind.wrap_u64]; omega
  rw [hq, hr]
  clear hq hr
  go_enter Tryd.func57, Tryd.ntmps57
  go_wp2_with fail
  go_quiet (fail)
  go_wp2_with fail
  go_ret2
  exact ⟨rfl, _, rfl⟩
theorem div64_all (h l y : Nat) (w : World) (hy : 9223372036854775808 ≤ y) (hy2 : y < 18446744073709551616) (hh : h < y) (hl : l < 18446744073709551616) :
    Calls Tryd.prog 57 #[.int .u64 (h : Int), .int .u64 (l : Int), .int .u64 (y : Int)] w fun e w' =>
      e = .returned (.tuple #[.int .u64 (((h * 18446744073709551616 + l) / y : Nat) : Int), .int .u64 (((h * 18446744073709551616 + l) % y : Nat) : Int)]) ∧ ∃ m, w' = w.drewN m := by
  rcases Nat.eq_zero_or_pos h with h0 | h0
  · subst h0
    rw [Nat.zero_mul, Nat.zero_add]
    exact div64_zero l y w (by omega) hy2 hl
  · exact (div64_run h l y w hy hy2 hh hl h0).mono fun _ _ ⟨e, hw⟩ => ⟨e, 0, hw⟩
/-- The carry of t times D. -/
def tcar (t D i : Nat) : Nat := car 18446744073709551616 t D 0 0 0 i
theorem tcar_step (t D i : Nat) : (wd D i * t + tcar t D i) % 18446744073709551616 = wd (t * D) i ∧ (wd D i * t + tcar t D i) / 18446744073709551616 = tcar t D (i + 1) := by
  have h1 := lin_mod (B := 18446744073709551616) (by decide) t D 0 0 0 i
  have h2 := lin_div (B := 18446744073709551616) (by decide) t D 0 0 0 i
  simp only [Nat.zero_mul, Nat.add_zero, Nat.mul_comm t (dig _ _ _)] at h1 h2
  exact ⟨h1, h2⟩
theorem tcar_zero (t D : Nat) : tcar t D 0 = 0 := car_zero _ _ _ _ _ _
theorem tcar_lt {t D i : Nat} (ht : t < 18446744073709551616) : tcar t D i < 18446744073709551616 := car_lt (by decide) t D 0 0 0 i (by omega) (by decide)
theorem tcar_top {t D n : Nat} (ht : t < 18446744073709551616) (hD : D < 18446744073709551616 ^ n) : tcar t D n = wd (t * D) n := by
  have h1 := car_top 18446744073709551616 t 0 0 n (b := 0) hD (Nat.pow_pos (by decide))
  simp only [Nat.zero_mul, Nat.add_zero] at h1
  have h2 := (tcar_step t D n).1
  have h3 : wd D n = 0 := dig_high hD
  rw [h3, Nat.zero_mul, Nat.zero_add, Nat.mod_eq_of_lt (tcar_lt ht)] at h2
  exact h2
theorem tD_lt {t D n : Nat} (ht : t < 18446744073709551616) (hD : D < 18446744073709551616 ^ n) : t * D < 18446744073709551616 ^ (n + 1) := by
  rw [Nat.pow_succ, Nat.mul_comm]
  exact Nat.mul_lt_mul'' hD ht
/-- Is R less than P? -/
def lessN (R P : Nat) : Nat := if R < P then 1 else 0
/-- R less P, brought into k words. -/
def subW (R P k : Nat) : Nat := if R < P then R + 18446744073709551616 ^ k - P else R - P
theorem subW_eq {R P k : Nat} (hP : P < 18446744073709551616 ^ k) : subW R P k + P = R + (if R < P then 1 else 0) * 18446744073709551616 ^ k := by
  unfold subW
  split
  · rw [Nat.one_mul]; omega
  · rw [Nat.zero_mul]; omega
theorem subW_step {R P k i : Nat} (hP : P < 18446744073709551616 ^ k) (hi : i < k) :
    (wd R i + 18446744073709551616 - wd P i - bw R P i) % 18446744073709551616 = wd (subW R P k) i ∧ bor (wd R i) (wd P i) (bw R P i) = bw R P (i + 1) :=
  bor_step (sub_step (B := 18446744073709551616) (by decide) (subW_eq hP) hi) (wd_lt _ _) (brw_le _ _ _ _)
/-- But for the cells of block b from o to before o + N nothing has turned. -/
def ButR (w w' : World) (b o N : Nat) : Prop := (∀ x : Addr, ¬ (x.block = b ∧ o ≤ x.off ∧ x.off < o + N) → w'.cell? x = w.cell? x ∧ w'.frozen? x = w.frozen? x) ∧ (∀ B w0, B ≤ b → Below B w0 w → Below B w0 w') ∧ w'.heap.size = w.heap.size
theorem ButR.refl (w : World) (b o N : Nat) : ButR w w b o N := ⟨fun _ _ => ⟨rfl, rfl⟩, fun _ _ _ h => h, rfl⟩
theorem ButR.trans {u v w : World} {b o N : Nat} (h : ButR u v b o N) (k : ButR v w b o N) : ButR u w b o N :=
  ⟨fun x hx => ⟨(k.1 x hx).1.trans (h.1 x hx).1, (k.1 x hx).2.trans (h.1 x hx).2⟩, fun B w0 hB hb => k.2.1 B w0 hB (h.2.1 B w0 hB hb), k.2.2.trans h.2.2⟩
theorem ButR.setCell (w : World) {b o N i : Nat} (v : Value) (hi : i < N) : ButR w (w.setCell ⟨b, o + i, none⟩ v) b o N :=
  ⟨fun _ hx => ⟨World.cell?_setCell_other _ _ _ _ (fun e => hx (by rw [← e]; exact ⟨rfl, Nat.le_add_right _ _, by show o + i < o + N; omega⟩)), by rw [World.frozen?_setCell]⟩, fun _ _ hB h => h.setCell (p := ⟨b, o + i, none⟩) hB _, by simp⟩
theorem WordsF.butR {w w' : World} {b c o q N k : Nat} {f : Nat → Nat} (h : WordsF w b o f k) (hw : ButR w w' c q N) (hne : b ≠ c) : WordsF w' b o f k := fun i hi =>
  ⟨(hw.1 ⟨b, o + i, none⟩ (fun e => hne e.1)).1.trans (h i hi).1, (hw.1 ⟨b, o + i, none⟩ (fun e => hne e.1)).2.trans (h i hi).2⟩
set_option maxRecDepth 100000 in
set_option maxHeartbeats 8000000 in
theorem subtractTimes_run (b o c1 d p c2 n N R D t : Nat) (w : World) (hN : Hid (N = n + 1)) (hn : n ≤ 8) (ht : t < 18446744073709551616) (hR : Hid (R < 18446744073709551616 ^ N)) (hD : Hid (D < 18446744073709551616 ^ n)) (hbd : b ≠ d)
    (hw : Hid (WordsAt w b o R N)) (hv : Hid (WordsAt w d p D n)) :
    Calls Tryd.prog 58 #[.slice (some ⟨b, o, none⟩) N c1, .slice (some ⟨d, p, none⟩) n c2, .int .u64 (t : Int)] w fun e w' =>
      e = .returned (.int .u64 (lessN R (t * D) : Int)) ∧ WordsAt w' b o (subW R (t * D) N) N ∧ ButR w w' b o N := by
  obtain ⟨P, hP⟩ : ∃ P, t * D = P := ⟨_, rfl⟩
  have HP := Lib.hid hP
  have HPL : Hid (P < 18446744073709551616 ^ N) := by show _ < _; rw [hN.out, ← hP]; exact tD_lt ht hD.out
  rw [hP]
  clear hP
  go_enter Tryd.func58, Tryd.ntmps58
  go_wp2_with fail
  go_loopg [7, 9, 14] (n + 1) (fun h s7 s9 s14 wr => ∃ (i x c : Nat) (f : Nat → Nat), s7 = .int .u64 (x : Int) ∧ s9 = .int .u64 (c : Int) ∧ s14 = .int .i64 (i : Int) ∧ Hid (i ≤ n ∧ n < i + h) ∧ Hid (x = tcar t D i) ∧ Hid (c = bw R P i) ∧ Hid (WordsF wr b o f N) ∧ Hid ((∀ j, j < i → f j = wd (subW R P N) j) ∧ (∀ j, i ≤ j → f j = wd R j)) ∧ Hid (ButR w wr b o N))
  case atStart => exact ⟨0, 0, 0, wd R, rfl, rfl, rfl, by show _ ∧ _; omega, (tcar_zero t D).symm, (brw_zero _ R P).symm, hw, ⟨fun j hj => absurd hj (by omega), fun j _ => rfl⟩, ButR.refl w b o N⟩
  case round =>
    obtain ⟨i, x, c, f, rfl, rfl, rfl, HI, HX, HC, HF, HE, HW⟩ := hrel
    by_cases hlt : i < n
    · have hltz : (i : Int) < (n : Int) := by omega
      have hiN : i < N := by have := hN.out; omega
      have hiNz : (i : Int) < (N : Int) := by omega
      have cd := ((hv.out.butR HW.out (fun e => hbd e.symm)) i hlt).1
      have cf := HF.out i hiN
      have hfi := HE.out.2 i (Nat.le_refl _)
      obtain ⟨y, hy⟩ : ∃ y, wd D i = y := ⟨_, rfl⟩
      obtain ⟨z, hz⟩ : ∃ z, f i = z := ⟨_, rfl⟩
      rw [hy] at cd
      rw [hz] at cf hfi
      obtain ⟨cf1, cf2⟩ := cf
      obtain ⟨lo, hlo⟩ : ∃ lo, wd P i = lo := ⟨_, rfl⟩
      obtain ⟨x2, hx2⟩ : ∃ x2, tcar t D (i + 1) = x2 := ⟨_, rfl⟩
      have HM : Hid (∀ W, Calls Tryd.prog 45 #[.int .u64 (y : Int), .int .u64 (t : Int), .int .u64 (x : Int), .int .u64 0] W fun e w' => e = .returned (.tuple #[.int .u64 (x2 : Int), .int .u64 (lo : Int)]) ∧ w' = W) := fun W => by
        have h1 := multiplyAdd_run y t x 0 W (hy ▸ wd_lt D i) ht (HX.out ▸ tcar_lt ht) (by decide)
        have h2 := tcar_step t D i
        rw [← HX.out, hy, HP.out, hlo, hx2] at h2
        rw [Nat.add_zero, h2.1, h2.2] at h1
        exact h1
      obtain ⟨s, hs⟩ : ∃ s, (z + 18446744073709551616 - lo - c) % 18446744073709551616 = s := ⟨_, rfl⟩
      obtain ⟨c', hc'⟩ : ∃ c', bor z lo c = c' := ⟨_, rfl⟩
      have hsub := sub64_run z lo c (HC.out ▸ brw_le _ R P i)
      rw [hs, hc'] at hsub
      have hst := subW_step (R := R) HPL.out hiN
      rw [← hfi, hlo, ← HC.out, hs, hc'] at hst
      have HS := Lib.hid hst.1
      have HC2 := Lib.hid hst.2
      have HX2 := Lib.hid hx2
      clear hy hz hlo hx2 hs hc' hst hfi
      go_wp2_with fail
      refine (HM.out _).mono ?_
      rintro e w1 ⟨rfl, rfl⟩
      go_wp2_with fail
      go_roundg (n - i)
      case measure => have := HI.out; omega
      case rel =>
        refine ⟨i + 1, x2, c', updF f i s, rfl, rfl, by go_num, by show _ ∧ _; have := HI.out; omega, HX2.out.symm, HC2, HF.out.upd hiN s, ⟨fun j hj => ?_, fun j hj => ?_⟩, HW.out.trans (ButR.setCell _ _ hiN)⟩
        · by_cases e : j = i
          · rw [e, updF_same]; exact HS.out
          · rw [updF_other e]; exact HE.out.1 j (by omega)
        · rw [updF_other (by omega)]; exact HE.out.2 j (by omega)
    · obtain rfl : i = n := by have := HI.out; omega
      have hiN : i < N := by have := hN.out; omega
      have hiNz : (i : Int) < (N : Int) := by omega
      have cf := HF.out i hiN
      have hfi := HE.out.2 i (Nat.le_refl _)
      obtain ⟨z, hz⟩ : ∃ z, f i = z := ⟨_, rfl⟩
      rw [hz] at cf hfi
      obtain ⟨cf1, cf2⟩ := cf
      have hxl : x = wd P i := by rw [HX.out, tcar_top ht hD.out, HP.out]
      obtain ⟨s, hs⟩ : ∃ s, (z + 18446744073709551616 - x - c) % 18446744073709551616 = s := ⟨_, rfl⟩
      obtain ⟨c', hc'⟩ : ∃ c', bor z x c = c' := ⟨_, rfl⟩
      have hsub := sub64_run z x c (HC.out ▸ brw_le _ R P i)
      rw [hs, hc'] at hsub
      have hst := subW_step (R := R) HPL.out hiN
      rw [← hfi, ← hxl, ← HC.out, hs, hc'] at hst
      have HV : Hid (c' = lessN R P) := by
        show _ = _
        rw [hst.2, ← hN.out]
        exact brw_top _ _ hR.out HPL.out
      have HFW : Hid (WordsAt (wr.setCell ⟨b, o + i, none⟩ (.int .u64 (s : Int))) b o (subW R P N) N) := (HF.out.upd hiN s).ext fun j hj => by
        by_cases e : j = i
        · rw [e, updF_same]; exact hst.1
        · rw [updF_other e]; exact HE.out.1 j (by have := hN.out; omega)
      clear hz hs hc' hst hfi hxl
      go_wp2_with fail
      go_ret
      exact ⟨ret_int (by rw [HV.out]), HFW.out, HW.out.trans (ButR.setCell _ _ hiN)⟩
theorem sum_lt {R D N n : Nat} (hN : N = n + 1) (hR : R < 18446744073709551616 ^ N) (hD : D < 18446744073709551616 ^ n) : (R + D) / 18446744073709551616 ^ N ≤ 1 := by
  have : D < 18446744073709551616 ^ N := Nat.lt_of_lt_of_le hD (Nat.pow_le_pow_right (by decide) (by omega))
  apply Nat.le_of_lt_succ
  apply (Nat.div_lt_iff_lt_mul (Nat.pow_pos (by decide))).2
  omega
set_option maxRecDepth 100000 in
set_option maxHeartbeats 8000000 in
theorem addTo_run (b o c1 d p c2 n N R D : Nat) (w : World) (hN : Hid (N = n + 1)) (hn : n ≤ 8) (hR : Hid (R < 18446744073709551616 ^ N)) (hD : Hid (D < 18446744073709551616 ^ n)) (hbd : b ≠ d)
    (hw : Hid (WordsAt w b o R N)) (hv : Hid (WordsAt w d p D n)) :
    Calls Tryd.prog 59 #[.slice (some ⟨b, o, none⟩) N c1, .slice (some ⟨d, p, none⟩) n c2] w fun e w' =>
      e = .returned (.int .u64 (((R + D) / 18446744073709551616 ^ N : Nat) : Int)) ∧ WordsAt w' b o (R + D) N ∧ ButR w w' b o N := by
  obtain ⟨V, hV⟩ : ∃ V, (R + D) / 18446744073709551616 ^ N = V := ⟨_, rfl⟩
  have HVV := Lib.hid hV
  rw [hV]
  clear hV
  go_enter Tryd.func59, Tryd.ntmps59
  go_wp2_with fail
  go_loopg [5, 10] (n + 1) (fun h s5 s10 wr => ∃ (i c : Nat) (f : Nat → Nat), s5 = .int .u64 (c : Int) ∧ s10 = .int .i64 (i : Int) ∧ Hid (i ≤ n ∧ n < i + h) ∧ Hid (c = cy R D i) ∧ Hid (WordsF wr b o f N) ∧ Hid ((∀ j, j < i → f j = wd (R + D) j) ∧ (∀ j, i ≤ j → f j = wd R j)) ∧ Hid (ButR w wr b o N))
  case atStart => exact ⟨0, 0, wd R, rfl, rfl, by show _ ∧ _; omega, (cy_zero R D).symm, hw, ⟨fun j hj => absurd hj (by omega), fun j _ => rfl⟩, ButR.refl w b o N⟩
  case round =>
    obtain ⟨i, c, f, rfl, rfl, HI, HC, HF, HE, HW⟩ := hrel
    by_cases hlt : i < n
    · have hltz : (i : Int) < (n : Int) := by omega
      have hiN : i < N := by have := hN.out; omega
      have hiNz : (i : Int) < (N : Int) := by omega
      have cd := ((hv.out.butR HW.out (fun e => hbd e.symm)) i hlt).1
      have cf := HF.out i hiN
      have hfi := HE.out.2 i (Nat.le_refl _)
      obtain ⟨y, hy⟩ : ∃ y, wd D i = y := ⟨_, rfl⟩
      obtain ⟨z, hz⟩ : ∃ z, f i = z := ⟨_, rfl⟩
      rw [hy] at cd
      rw [hz] at cf hfi
      obtain ⟨cf1, cf2⟩ := cf
      obtain ⟨s, hs⟩ : ∃ s, (z + y + c) % 18446744073709551616 = s := ⟨_, rfl⟩
      obtain ⟨c', hc'⟩ : ∃ c', (z + y + c) / 18446744073709551616 = c' := ⟨_, rfl⟩
      have hadd := add64_run z y c (HC.out ▸ cy_le R D i)
      rw [hs, hc'] at hadd
      have HS : Hid (s = wd (R + D) i) := by show _ = _; rw [← hs, hfi, ← hy, HC.out]; exact cy_sum R D i
      have HC2 : Hid (c' = cy R D (i + 1)) := by show _ = _; rw [← hc', hfi, ← hy, HC.out]; exact cy_next R D i
      clear hy hz hs hc' hfi
      go_wp2_with fail
      go_roundg (n - i)
      case measure => have := HI.out; omega
      case rel =>
        refine ⟨i + 1, c', updF f i s, rfl, by go_num, by show _ ∧ _; have := HI.out; omega, HC2, HF.out.upd hiN s, ⟨fun j hj => ?_, fun j hj => ?_⟩, HW.out.trans (ButR.setCell _ _ hiN)⟩
        · by_cases e : j = i
          · rw [e, updF_same]; exact HS.out
          · rw [updF_other e]; exact HE.out.1 j (by omega)
        · rw [updF_other (by omega)]; exact HE.out.2 j (by omega)
    · obtain rfl : i = n := by have := HI.out; omega
      have hiN : i < N := by have := hN.out; omega
      have hiNz : (i : Int) < (N : Int) := by omega
      have cf := HF.out i hiN
      have hfi := HE.out.2 i (Nat.le_refl _)
      obtain ⟨z, hz⟩ : ∃ z, f i = z := ⟨_, rfl⟩
      rw [hz] at cf hfi
      obtain ⟨cf1, cf2⟩ := cf
      have hy : wd D i = 0 := dig_high hD.out
      obtain ⟨s, hs⟩ : ∃ s, (z + c) % 18446744073709551616 = s := ⟨_, rfl⟩
      obtain ⟨c', hc'⟩ : ∃ c', (z + c) / 18446744073709551616 = c' := ⟨_, rfl⟩
      have hadd : ∀ W, (callFunc 43 #[.int .u64 (z : Int), .int .u64 0, .int .u64 (c : Int)]).run Tryd.prog W = .ok (.value (.tuple #[.int .u64 (s : Int), .int .u64 (c' : Int)])) W := fun W => by
        have := add64_run z 0 c (HC.out ▸ cy_le R D i) W
        rwa [Nat.add_zero, hs, hc'] at this
      have h1 := cy_sum R D i
      have h2 := cy_next R D i
      rw [← hfi, hy, Nat.add_zero, ← HC.out] at h1 h2
      rw [hs] at h1
      rw [hc'] at h2
      have HV : Hid (c' = V) := by
        show _ = _
        rw [h2, ← hN.out, ← HVV.out]
        have := car_top 18446744073709551616 1 1 0 N hR.out (b := D) (Nat.lt_of_lt_of_le hD.out (Nat.pow_le_pow_right (by decide) (by have := hN.out; omega)))
        simpa only [Nat.one_mul, Nat.add_zero, cy] using this
      have HFW : Hid (WordsAt (wr.setCell ⟨b, o + i, none⟩ (.int .u64 (s : Int))) b o (R + D) N) := (HF.out.upd hiN s).ext fun j hj => by
        by_cases e : j = i
        · rw [e, updF_same]; exact h1
        · rw [updF_other e]; exact HE.out.1 j (by have := hN.out; omega)
      clear hz hs hc' h1 h2 hfi hy
      go_wp2_with fail
      go_ret
      exact ⟨ret_int (by rw [HV.out]), HFW.out, HW.out.trans (ButR.setCell _ _ hiN)⟩
end Go.Proofs.YtbcnpajdmlbieaaDoor
