/-
  Stage 7: limb's shiftRight, widen.
-/
import Derived.Test.YtbcnpajdmlbieaaDoorLmD
namespace Go.Proofs.YtbcnpajdmlbieaaDoor
open Go.RowKit Go.Sort

theorem wd_div_pow {m q t : Nat} : wd (m / 18446744073709551616 ^ q) t = wd m (t + q) := dig_div
theorem wd_high {m t : Nat} (h : Fits m) (ht : 8 ≤ t) : wd m t = 0 := dig_high (Nat.lt_of_lt_of_le h (Nat.pow_le_pow_right (by decide) ht))
theorem fits_div {m : Nat} (h : Fits m) (k : Nat) : Fits (m / k) := Nat.lt_of_le_of_lt (Nat.div_le_self _ _) h
theorem pow_of_two {m s k : Nat} (h : m = 2 ^ s) : m ^ k = 2 ^ (s * k) := by rw [h, Nat.pow_mul]
theorem fits_le {m s k n t : Nat} (h : m = 2 ^ s) (hk : s * k = t) (hn : t ≤ n) {a : Nat} (ha : a < m ^ k) : a < 2 ^ n := by
  rw [pow_of_two h] at ha
  exact Nat.lt_of_lt_of_le ha (Nat.pow_le_pow_right (by decide) (by omega))
theorem fits_two {a n : Nat} (h : Fits a) (hn : 512 ≤ n) : a < 2 ^ n := fits_le (m := 18446744073709551616) (s := 64) (k := 8) (t := 512) rfl rfl hn h
set_option maxRecDepth 100000 in
set_option maxHeartbeats 1000000 in
theorem shiftRight_great (a n : Nat) (w : World) (hn : 512 ≤ n) (ha : Fits a) :
    Calls Tryd.prog 50 #[wordsV a, .int .i64 (n : Int)] w fun e w' => e = .returned (wordsV (a / 2 ^ n)) ∧ Below w.heap.size w w' := by
  have hz : a / 2 ^ n = 0 := Nat.div_eq_of_lt (fits_two ha hn)
  rw [hz]
  have hnz : (512 : Int) ≤ (n : Int) := by omega
  obtain ⟨S, hS⟩ : ∃ S, w.heap.size = S := ⟨_, rfl⟩
  obtain ⟨W, hW⟩ : ∃ W, (w.alloc (boxO a 61)).alloc (boxZ 61) = W := ⟨_, rfl⟩
  obtain ⟨_, h2, h3⟩ := box_zero w a 61 61
  rw [hW, hS] at h2 h3
  have HW := Lib.hid h3
  obtain ⟨⟨c0, d0⟩, ⟨c1, d1⟩, ⟨c2, d2⟩, ⟨c3, d3⟩, ⟨c4, d4⟩, ⟨c5, d5⟩, ⟨c6, d6⟩, ⟨c7, d7⟩⟩ := h2.eight
  clear h2 h3 hz ha
  unfold wordsV
  rw [hS]
  go_enter Tryd.func50, Tryd.ntmps50
  go_wp2_with fail
  refine bodyPost_ret (v := wordsV 0) (by rw [results_cell1 rfl]; go_simp; try rfl) rfl ⟨rfl, ?_⟩
  exact below_set8 (b := S + 1) HW.out (by omega) _ _ _ _ _ _ _ _
set_option maxRecDepth 100000 in
set_option maxHeartbeats 1000000 in
theorem shiftRight_run (a n : Nat) (w : World) (hn : n < 512) (ha : Fits a) :
    Calls Tryd.prog 50 #[wordsV a, .int .i64 (n : Int)] w fun e w' => e = .returned (wordsV (a / 2 ^ n)) ∧ Below w.heap.size w w' := by
  obtain ⟨q, hq⟩ : ∃ q, n / 64 = q := ⟨_, rfl⟩
  obtain ⟨s, hs⟩ : ∃ s, n % 64 = s := ⟨_, rfl⟩
  have hq8 : q < 8 := by omega
  have hs64 : s < 64 := by omega
  have hne : ¬ 8 = q := by omega
  have hqz : (n : Int) / 64 = (q : Int) := by omega
  have hsz : (n : Int) % 64 = (s : Int) := by omega
  have hq8z : (q : Int) ≤ 8 := by omega
  have hnz : decide ((512 : Int) ≤ (n : Int)) = false := by simp; omega
  have HV : Hid (a / 18446744073709551616 ^ q / 2 ^ s = a / 2 ^ n) := by
    have e1 : (18446744073709551616 : Nat) = 2 ^ 64 := rfl
    show _ = _
    rw [e1, ← Nat.pow_mul, Nat.div_div_eq_div_mul, ← Nat.pow_add, show 64 * q + s = n by omega]
  have HM := Lib.hid (fits_div ha (18446744073709551616 ^ q))
  obtain ⟨W, hW⟩ : ∃ W, (w.alloc (boxO a 61)).alloc (boxZ 61) = W := ⟨_, rfl⟩
  obtain ⟨h1, h2, h3⟩ := box_zero w a 61 61
  rw [hW] at h1 h2 h3
  obtain ⟨wc, hcp, C2, N2⟩ := copy_into W.drew (w.heap.size + 1) 0 0 w.heap.size q 8 8 (8 - q) 8 (8 - q) (wd 0) (fun t => wd a (q + t)) h2 (by omega) (by have := h1.sub q (8 - q) (by omega); rwa [Nat.zero_add] at this) (8 - q) (by show min (8 - q) 8 = 8 - q; omega)
  rw [Nat.add_zero, ← hW] at hcp
  have HC : Hid (WordsAt wc (w.heap.size + 1) 0 (a / 18446744073709551616 ^ q) 8) := C2.ext fun t ht => by
    simp only [wd_div_pow, wd_zero]
    by_cases h : t < 8 - q
    · rw [if_pos ⟨Nat.zero_le _, by omega⟩, Nat.sub_zero, Nat.add_comm]
    · rw [if_neg (fun h' => h (by omega)), wd_high ha (by omega)]
  have HW : Hid (Below w.heap.size w wc) := N2.of_drew.2.1 _ _ (by omega) h3
  clear hW h1 h2 h3 C2 N2 ha
  unfold wordsV
  go_enter Tryd.func50, Tryd.ntmps50
  go_wp2_with fail
  go_region
  clear hcp
  go_wp2_with fail
  obtain ⟨M, hM⟩ : ∃ M, a / 18446744073709551616 ^ q = M := ⟨_, rfl⟩
  rw [hM] at HC HV HM
  clear hM
  go_loopg [18] 10 (fun h s18 wr => ∃ (i : Nat) (f : Nat → Nat), s18 = .int .i64 (i : Int) ∧ Hid (i ≤ 7 ∧ 8 ≤ i + h) ∧ Hid (WordsF wr (w.heap.size + 1) 0 f 8) ∧ Hid ((∀ t, t < i → f t = wd (M / 2 ^ s) t) ∧ (∀ t, i ≤ t → t < 8 → f t = wd M t)) ∧ Hid (Below w.heap.size w wr))
  case atStart => exact ⟨0, wd M, rfl, by show _ ∧ _; omega, HC, ⟨fun t ht => absurd ht (by omega), fun t _ _ => rfl⟩, HW⟩
  case round =>
    clear HC HW
    obtain ⟨i, f, rfl, HI, HF, HE, HW⟩ := hrel
    by_cases hlt : i < 7
    · have hltz : (i : Int) < 7 := by omega
      have hi8 : (i : Int) < 8 := by omega
      have hi9 : (i : Int) + 1 < 8 := by omega
      obtain ⟨m, hm⟩ : ∃ m, i + 1 = m := ⟨_, rfl⟩
      have hmz : (i : Int) + 1 = (m : Int) := by omega
      have hm8 : (m : Int) < 8 := by omega
      have hmw : IntKind.i64.wrap (m : Int) = (m : Int) := by rw [IntKind.wrap_i64]; omega
      have HMM := Lib.hid hm
      obtain ⟨x, hx⟩ : ∃ x, f i = x := ⟨_, rfl⟩
      obtain ⟨y, hy⟩ : ∃ y, f m = y := ⟨_, rfl⟩
      have cf := HF.out i (by omega)
      have cg := HF.out m (by omega)
      rw [Nat.zero_add] at cf cg
      rw [hx] at cf
      rw [hy] at cg
      obtain ⟨cf1, cf2⟩ := cf
      obtain ⟨cg1, cg2⟩ := cg
      have HE1 := HE.out.2 i (Nat.le_refl _) (by omega)
      have HE2 := HE.out.2 m (by omega) (by omega)
      have hxl : x < 18446744073709551616 := by rw [← hx, HE1]; exact wd_lt _ _
      obtain ⟨v, hv0⟩ : ∃ v, (x / 2 ^ s) ||| (y * 2 ^ (64 - s) % 18446744073709551616) = v := ⟨_, rfl⟩
      have hv : bits .or .u64 ((x : Int) / 2 ^ s) (IntKind.u64.wrap ((y : Int) * 2 ^ (64 - s))) = (v : Int) := by rw [or_words' hxl, hv0]
      have HVM : Hid (v = wd (M / 2 ^ s) i) := by show _ = _; rw [wd_shr hs64, ← HE1, hm, ← HE2, hx, hy]; exact hv0.symm
      clear hv0 hx hy HE1 HE2 hxl hm
      go_wp2_with fail
      go_region
      have HF2 : Hid (WordsF (wr.setCell ⟨w.heap.size + 1, i, none⟩ (.int .u64 (v : Int))).drew (w.heap.size + 1) 0 (updF f i v) 8) := by
        have := HF.out.upd (i := i) (by omega) v
        rwa [Nat.zero_add] at this
      have HW2 : Hid (Below w.heap.size w (wr.setCell ⟨w.heap.size + 1, i, none⟩ (.int .u64 (v : Int))).drew) := (HW.out.setCell (p := ⟨w.heap.size + 1, i, none⟩) (by show w.heap.size ≤ w.heap.size + 1; omega) _).drew
      clear cf1 cf2 cg1 cg2 HF HW hv
      generalize (wr.setCell ⟨w.heap.size + 1, i, none⟩ (.int .u64 (v : Int))).drew = wx at *
      go_wp2_with fail
      go_roundg (7 - i)
      case measure => have := HI.out; omega
      case rel =>
        refine ⟨m, updF f i v, by go_num, by show _ ∧ _; have := HI.out; have := HMM.out; omega, HF2, ⟨fun t ht => ?_, fun t ht ht2 => ?_⟩, HW2⟩
        · by_cases e : t = i
          · rw [e, updF_same]; exact HVM.out
          · rw [updF_other e]; exact HE.out.1 t (by have := HMM.out; omega)
        · rw [updF_other (by have := HMM.out; omega)]; exact HE.out.2 t (by have := HMM.out; omega) ht2
    · obtain rfl : i = 7 := by have := HI.out; omega
      have HE0 := HE.out.2 7 (by decide) (by decide)
      obtain ⟨x, hx⟩ : ∃ x, f 7 = x := ⟨_, rfl⟩
      obtain ⟨v, hv0⟩ : ∃ v, x / 2 ^ s = v := ⟨_, rfl⟩
      have hv : (x : Int) / 2 ^ s = (v : Int) := by rw [div_pow, hv0]
      have hvm : v = wd (M / 2 ^ s) 7 := by rw [wd_shr hs64, wd_high (t := 7 + 1) HM.out (by decide), ← HE0, hx]; simp [hv0]
      have KF : WordsAt (wr.setCell ⟨w.heap.size + 1, 7, none⟩ (.int .u64 (v : Int))) (w.heap.size + 1) 0 (a / 2 ^ n) 8 := by
        have := HF.out.upd (i := 7) (by decide) v
        rw [Nat.zero_add] at this
        refine this.ext fun t ht => ?_
        rw [← HV.out]
        by_cases e : t = 7
        · rw [e, updF_same, hvm]
        · rw [updF_other e]; exact HE.out.1 t (by omega)
      have HW2 : Hid (Below w.heap.size w (wr.setCell ⟨w.heap.size + 1, 7, none⟩ (.int .u64 (v : Int)))) := HW.out.setCell (p := ⟨w.heap.size + 1, 7, none⟩) (by show w.heap.size ≤ w.heap.size + 1; omega) _
      have cf := HF.out 7 (by decide)
      rw [Nat.zero_add, hx] at cf
      obtain ⟨cf1, cf2⟩ := cf
      clear hv0 hvm hx HE0 HF HE HW
      go_upto_region 12 with fail
      clear cf1 cf2 hv
      obtain ⟨⟨c0, d0⟩, ⟨c1, d1⟩, ⟨c2, d2⟩, ⟨c3, d3⟩, ⟨c4, d4⟩, ⟨c5, d5⟩, ⟨c6, d6⟩, ⟨c7, d7⟩⟩ := KF.eight
      generalize wr.setCell ⟨w.heap.size + 1, 7, none⟩ (.int .u64 (v : Int)) = wx at *
      clear KF
      go_wp2_with fail
      refine bodyPost_ret (v := wordsV (a / 2 ^ n)) (by rw [results_cell1 rfl]; go_simp; try rfl) rfl ⟨rfl, ?_⟩
      exact below_set8 (b := w.heap.size + 1) HW2.out (by omega) _ _ _ _ _ _ _ _
theorem WordsF.less {w : World} {b o k m : Nat} {f : Nat → Nat} (h : WordsF w b o f k) (hm : m ≤ k) : WordsF w b o f m := fun i hi => h i (by omega)
/-- Nine words. -/
def words9 (n : Nat) : Value := .agg #[.int .u64 (wd n 0 : Int), .int .u64 (wd n 1 : Int), .int .u64 (wd n 2 : Int), .int .u64 (wd n 3 : Int), .int .u64 (wd n 4 : Int), .int .u64 (wd n 5 : Int), .int .u64 (wd n 6 : Int), .int .u64 (wd n 7 : Int), .int .u64 (wd n 8 : Int)]
abbrev boxZ9 (T : TypeId) : Obj := .cells #[.int .u64 0, .int .u64 0, .int .u64 0, .int .u64 0, .int .u64 0, .int .u64 0, .int .u64 0, .int .u64 0, .int .u64 0] T
theorem WordsAt.zero9 (w : World) (T : TypeId) : WordsAt (w.alloc (boxZ9 T)) w.heap.size 0 0 9 := by
  intro i hi
  rw [wd_zero]
  rcases i with _ | _ | _ | _ | _ | _ | _ | _ | _ | i
  all_goals first | exact ⟨World.cell?_alloc_at _ _ _ _ rfl, World.frozen?_alloc_at _ _ _ _ rfl⟩ | omega
set_option maxRecDepth 100000 in
set_option maxHeartbeats 1000000 in
theorem widen_run (a s : Nat) (w : World) (hs : s < 64) (ha : Fits a) :
    Calls Tryd.prog 48 #[wordsV a, .int .i64 (s : Int)] w fun e w' => e = .returned (words9 (a * 2 ^ s)) ∧ Below w.heap.size w w' := by
  obtain ⟨S, hS⟩ : ∃ S, w.heap.size = S := ⟨_, rfl⟩
  have HC := Lib.hid (fun W => shiftLeft_run a s W (by omega))
  obtain ⟨W, hW⟩ : ∃ W, (w.alloc (boxO a 61)).alloc (boxZ9 81) = W := ⟨_, rfl⟩
  have h1 : WordsAt W w.heap.size 0 a 8 := by rw [← hW]; exact (WordsAt.new w a _).alloc (by simp) _
  have h2 : WordsAt W (w.heap.size + 1) 0 0 9 := by
    have := WordsAt.zero9 (w.alloc (boxO a 61)) 81
    rw [hW] at this
    simpa using this
  have h3 : Below w.heap.size w W := by rw [← hW]; exact (below_alloc w _).alloc (by simp) _
  have h4 : W.heap.size = w.heap.size + 1 + 1 := by rw [← hW]; simp
  rw [hS] at h1 h2 h3 h4
  have H1 := Lib.hid h1
  have H2 := Lib.hid h2
  have H3 := Lib.hid h3
  have H4 := Lib.hid h4
  unfold wordsV at HC ⊢
  rw [hS]
  obtain ⟨⟨c0, d0⟩, ⟨c1, d1⟩, ⟨c2, d2⟩, ⟨c3, d3⟩, ⟨c4, d4⟩, ⟨c5, d5⟩, ⟨c6, d6⟩, ⟨c7, d7⟩⟩ := h1.eight
  clear h1 h2 h3 h4
  go_enter Tryd.func48, Tryd.ntmps48
  go_wp2_with fail
  refine (HC.out _).mono ?_
  rintro e w1 ⟨rfl, hw1⟩
  have k1 : S < W.heap.size := by rw [H4.out]; omega
  have k2 : S + 1 < W.heap.size := by rw [H4.out]; omega
  have A1 := H1.out.keep hw1 k1
  have Z1 := H2.out.keep hw1 k2
  have B1 : Hid (Below S w w1) := H3.out.trans (hw1.mono (Nat.le_of_lt k1))
  have N1 := WordsAt.new w1 (a * 2 ^ s) 61
  have hsz : S + 1 + 1 ≤ w1.heap.size := by have := hw1.size; rw [H4.out] at this; exact this
  obtain ⟨R, hR⟩ : ∃ R, w1.heap.size = R := ⟨_, rfl⟩
  rw [hR] at N1
  have B2 : Below S w (w1.alloc (boxO (a * 2 ^ s) 61)) := B1.out.alloc (by omega) _
  obtain ⟨wc, hcp, C2, N2⟩ := copy_into (w1.alloc (boxO (a * 2 ^ s) 61)).drew (S + 1) 0 0 R 0 9 9 8 9 8 (wd 0) (wd (a * 2 ^ s)) (Z1.alloc (by omega) _) (by omega) N1 8 rfl
  rw [Nat.add_zero] at hcp
  have A2 := (((A1.alloc (by omega) _).but N2.of_drew (by omega)) 7 (by decide)).1
  rw [Nat.zero_add] at A2
  obtain ⟨x, hx⟩ : ∃ x, wd a 7 = x := ⟨_, rfl⟩
  obtain ⟨v, hv0⟩ : ∃ v, x / 2 ^ (64 - s) = v := ⟨_, rfl⟩
  have hv : (x : Int) / 2 ^ (64 - s) = (v : Int) := by rw [div_pow, hv0]
  have hvm : v = wd (a * 2 ^ s) 8 := by rw [wd_shl hs, wd_high (t := 7 + 1) ha (by decide), hx]; simp [hv0]
  rw [hx] at A2
  have K := C2.upd (i := 8) (by decide) v
  have K2 := K.ext (g := wd (a * 2 ^ s)) fun t ht => by
    by_cases e : t = 8
    · rw [e, updF_same, hvm]
    · rw [updF_other e]
      simp only [Nat.sub_zero]
      rw [if_pos (by omega)]
  rw [Nat.zero_add] at K2
  have C8 := C2 8 (by decide)
  rw [Nat.zero_add] at C8
  obtain ⟨z1, z2⟩ := C8
  have HB : Hid (Below S w (wc.setCell ⟨S + 1, 8, none⟩ (.int .u64 (v : Int)))) := (N2.of_drew.2.1 S w (by omega) B2).setCell (p := ⟨S + 1, 8, none⟩) (by show S ≤ S + 1; omega) _
  obtain ⟨⟨c0, d0⟩, ⟨c1, d1⟩, ⟨c2, d2⟩, ⟨c3, d3⟩, ⟨c4, d4⟩, ⟨c5, d5⟩, ⟨c6, d6⟩, ⟨c7, d7⟩⟩ := (WordsF.less K2 (by decide : 8 ≤ 9)).eight
  have K8 := K2 8 (by decide)
  rw [Nat.zero_add] at K8
  obtain ⟨c8, d8⟩ := K8
  obtain ⟨wx, hwx⟩ : ∃ wx, wc.setCell ⟨S + 1, 8, none⟩ (.int .u64 (v : Int)) = wx := ⟨_, rfl⟩
  rw [hwx] at c0 c1 c2 c3 c4 c5 c6 c7 c8 d0 d1 d2 d3 d4 d5 d6 d7 d8 HB
  clear K K2 N1 A1 Z1 C2 N2 B2 hx hv0 hvm B1 H1 H2 H3 H4
  go_wp2_with fail
  go_region
  clear hcp
  go_wp2_with fail
  refine bodyPost_ret (v := words9 (a * 2 ^ s)) (by rw [results_cell1 rfl]; go_simp; try rfl) rfl ⟨rfl, ?_⟩
  exact (below_set8 (b := S + 1) HB.out (by omega) _ _ _ _ _ _ _ _).setCell (p := ⟨S + 1, 8, none⟩) (by show S ≤ S + 1; omega) _
end Go.Proofs.YtbcnpajdmlbieaaDoor
