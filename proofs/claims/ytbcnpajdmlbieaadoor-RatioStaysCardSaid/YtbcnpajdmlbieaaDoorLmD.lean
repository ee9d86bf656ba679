/-
  Stage 7: limb's shiftLeft, shiftRight, widen.
-/
import Derived.Test.YtbcnpajdmlbieaaDoorLmC
namespace Go.Proofs.YtbcnpajdmlbieaaDoor
open Go.RowKit Go.Sort

theorem wd_mul_pow {m q t : Nat} : wd (m * 18446744073709551616 ^ q) t = if q ≤ t then wd m (t - q) else 0 := by
  unfold wd
  by_cases h : q ≤ t
  · rw [if_pos h]
    obtain ⟨u, rfl⟩ : ∃ u, t = u + q := ⟨t - q, by omega⟩
    rw [← dig_div, Nat.mul_div_cancel _ (Nat.pow_pos (by decide)), Nat.add_sub_cancel]
  · rw [if_neg h, ← dig_mod (j := q) (Nat.lt_of_not_le h), Nat.mul_mod_left, dig_zero]
theorem pow_split {s t : Nat} (h : s + t = 64) : (2 : Nat) ^ (s + t) = 18446744073709551616 := by rw [h]
theorem wd_shl {m i s : Nat} (hs : s < 64) : wd (m * 2 ^ s) (i + 1) = (wd m (i + 1) * 2 ^ s % 18446744073709551616) ||| (wd m i / 2 ^ (64 - s)) := by
  have := dig_shl (m := m) (i := i) (s := s) (t := 64 - s)
  rwa [pow_split (by omega)] at this
theorem wd_shl0 {m s : Nat} (hs : s < 64) : wd (m * 2 ^ s) 0 = wd m 0 * 2 ^ s % 18446744073709551616 := by
  have := dig_shl0 (m := m) (s := s) (t := 64 - s)
  rwa [pow_split (by omega)] at this
theorem wd_shr {m i s : Nat} (hs : s < 64) : wd (m / 2 ^ s) i = (wd m i / 2 ^ s) ||| (wd m (i + 1) * 2 ^ (64 - s) % 18446744073709551616) := by
  have := dig_shr (m := m) (i := i) (s := s) (t := 64 - s)
  rwa [pow_split (by omega)] at this
theorem wrap_shl (x s : Nat) : IntKind.u64.wrap ((x : Int) * 2 ^ s) = ((x * 2 ^ s % 18446744073709551616 : Nat) : Int) := by
  have e : (x : Int) * 2 ^ s = ((x * 2 ^ s : Nat) : Int) := by rw [Int.natCast_mul, Int.natCast_pow]; rfl
  rw [e, IntKind.wrap_u64]
  generalize x * 2 ^ s = y
  omega
theorem div_pow (y t : Nat) : (y : Int) / 2 ^ t = ((y / 2 ^ t : Nat) : Int) := by
  rw [Int.natCast_ediv, Int.natCast_pow]
  rfl
theorem or_words {x y s t : Nat} (hy : y < 18446744073709551616) : bits .or .u64 (IntKind.u64.wrap ((x : Int) * 2 ^ s)) ((y : Int) / 2 ^ t) = (((x * 2 ^ s % 18446744073709551616) ||| (y / 2 ^ t) : Nat) : Int) := by
  rw [wrap_shl, div_pow]
  exact bits_or_u64_nat _ _ (Nat.mod_lt _ (by decide)) (Nat.lt_of_le_of_lt (Nat.div_le_self _ _) hy)
theorem or_words' {x y s t : Nat} (hy : y < 18446744073709551616) : bits .or .u64 ((y : Int) / 2 ^ t) (IntKind.u64.wrap ((x : Int) * 2 ^ s)) = (((y / 2 ^ t) ||| (x * 2 ^ s % 18446744073709551616) : Nat) : Int) := by
  rw [wrap_shl, div_pow]
  exact bits_or_u64_nat _ _ (Nat.lt_of_le_of_lt (Nat.div_le_self _ _) hy) (Nat.mod_lt _ (by decide))
theorem box_zero (w : World) (a : Nat) (T U : TypeId) : WordsAt ((w.alloc (boxO a T)).alloc (boxZ U)) w.heap.size 0 a 8 ∧ WordsAt ((w.alloc (boxO a T)).alloc (boxZ U)) (w.heap.size + 1) 0 0 8 ∧ Below w.heap.size w ((w.alloc (boxO a T)).alloc (boxZ U)) := by
  refine ⟨(WordsAt.new w a T).alloc (by simp) _, ?_, (below_alloc w _).alloc (by simp) _⟩
  have := WordsAt.zero (w.alloc (boxO a T)) U
  simpa using this
set_option maxRecDepth 100000 in
set_option maxHeartbeats 8000000 in
theorem shiftLeft_run (a n : Nat) (w : World) (hn : n < 512) :
    Calls Tryd.prog 47 #[wordsV a, .int .i64 (n : Int)] w fun e w' => e = .returned (wordsV (a * 2 ^ n)) ∧ Below w.heap.size w w' := by
  obtain ⟨q, hq⟩ : ∃ q, n / 64 = q := ⟨_, rfl⟩
  obtain ⟨s, hs⟩ : ∃ s, n % 64 = s := ⟨_, rfl⟩
  have hq8 : q < 8 := by omega
  have hs64 : s < 64 := by omega
  have hne : ¬ 8 = q := by omega
  have hqz : (n : Int) / 64 = (q : Int) := by omega
  have hsz : (n : Int) % 64 = (s : Int) := by omega
  have hq8z : (q : Int) ≤ 8 := by omega
  have HV : Hid (a * 18446744073709551616 ^ q * 2 ^ s = a * 2 ^ n) := by
    have e1 : (18446744073709551616 : Nat) = 2 ^ 64 := rfl
    show _ = _
    rw [e1, ← Nat.pow_mul, Nat.mul_assoc, ← Nat.pow_add, show 64 * q + s = n by omega]
  obtain ⟨W, hW⟩ : ∃ W, (w.alloc (boxO a 61)).alloc (boxZ 61) = W := ⟨_, rfl⟩
  obtain ⟨h1, h2, h3⟩ := box_zero w a 61 61
  rw [hW] at h1 h2 h3
  obtain ⟨wc, hcp, C2, N2⟩ := copy_into W.drew (w.heap.size + 1) 0 q w.heap.size 0 8 (8 - q) 8 (8 - q) 8 (wd 0) (wd a) h2 (by omega) h1 (8 - q) (by show min 8 (8 - q) = 8 - q; omega)
  rw [Nat.zero_add, ← hW] at hcp
  have HC : Hid (WordsAt wc (w.heap.size + 1) 0 (a * 18446744073709551616 ^ q) 8) := C2.ext fun t ht => by
    simp only [wd_mul_pow, wd_zero]
    by_cases h : q ≤ t
    · rw [if_pos ⟨h, by omega⟩, if_pos h]
    · rw [if_neg (fun h' => h h'.1), if_neg h]
  have HW : Hid (Below w.heap.size w wc) := N2.of_drew.2.1 _ _ (by omega) h3
  clear hW h1 h2 h3 C2 N2
  unfold wordsV
  go_enter Tryd.func47, Tryd.ntmps47
  go_wp2_with fail
  go_region
  clear hcp
  go_wp2_with fail
  obtain ⟨M, hM⟩ : ∃ M, a * 18446744073709551616 ^ q = M := ⟨_, rfl⟩
  rw [hM] at HC HV
  clear hM
  go_loopg [5] 10 (fun h s5 wr => ∃ (i : Nat) (f : Nat → Nat), s5 = .int .i64 (i : Int) ∧ Hid (i ≤ 7 ∧ i < h) ∧ Hid (WordsF wr (w.heap.size + 1) 0 f 8) ∧ Hid ((∀ t, t ≤ i → f t = wd M t) ∧ (∀ t, i < t → t < 8 → f t = wd (M * 2 ^ s) t)) ∧ Hid (Below w.heap.size w wr))
  case atStart => exact ⟨7, wd M, rfl, by show _ ∧ _; omega, HC, ⟨fun t _ => rfl, fun t h1 h2 => absurd h1 (by omega)⟩, HW⟩
  case round =>
    clear HC HW
    obtain ⟨i, f, rfl, HI, HF, HE, HW⟩ := hrel
    cases i with
    | zero =>
      have HE0 := HE.out.1 0 (by decide)
      obtain ⟨x, hx⟩ : ∃ x, f 0 = x := ⟨_, rfl⟩
      obtain ⟨v, hv0⟩ : ∃ v, x * 2 ^ s % 18446744073709551616 = v := ⟨_, rfl⟩
      have hv : IntKind.u64.wrap ((x : Int) * 2 ^ s) = (v : Int) := by rw [wrap_shl, hv0]
      have hvm : v = wd (M * 2 ^ s) 0 := by rw [wd_shl0 hs64, ← HE0, hx]; exact hv0.symm
      have KF : WordsAt (wr.setCell ⟨w.heap.size + 1, 0, none⟩ (.int .u64 (v : Int))) (w.heap.size + 1) 0 (a * 2 ^ n) 8 := by
        have := HF.out.upd (i := 0) (by decide) v
        rw [Nat.zero_add] at this
        refine this.ext fun t ht => ?_
        rw [← HV.out]
        by_cases e : t = 0
        · rw [e, updF_same, hvm]
        · rw [updF_other e]; exact HE.out.2 t (by omega) ht
      have HW2 : Hid (Below w.heap.size w (wr.setCell ⟨w.heap.size + 1, 0, none⟩ (.int .u64 (v : Int)))) := HW.out.setCell (p := ⟨w.heap.size + 1, 0, none⟩) (by show w.heap.size ≤ w.heap.size + 1; omega) _
      have cf := HF.out 0 (by decide)
      rw [Nat.zero_add, hx] at cf
      obtain ⟨cf1, cf2⟩ := cf
      clear hv0 hvm hx HE0 HF HE HW
      go_upto_region 8 with fail
      clear cf1 cf2 hv
      obtain ⟨⟨c0, d0⟩, ⟨c1, d1⟩, ⟨c2, d2⟩, ⟨c3, d3⟩, ⟨c4, d4⟩, ⟨c5, d5⟩, ⟨c6, d6⟩, ⟨c7, d7⟩⟩ := KF.eight
      generalize wr.setCell ⟨w.heap.size + 1, 0, none⟩ (.int .u64 (v : Int)) = wx at *
      clear KF
      go_wp2_with fail
      refine bodyPost_ret (v := wordsV (a * 2 ^ n)) (by rw [results_cell1 rfl]; go_simp; try rfl) rfl ⟨rfl, ?_⟩
      exact below_set8 (b := w.heap.size + 1) HW2.out (by omega) _ _ _ _ _ _ _ _
    | succ i =>
      have hi7 : i < 7 := by have := HI.out; omega
      have hp2 : (0 : Int) < ((i + 1 : Nat) : Int) := by omega
      have hw1 : IntKind.i64.wrap (((i + 1 : Nat) : Int) - 1) = (i : Int) := by rw [IntKind.wrap_i64]; omega
      have hi8z : ((i + 1 : Nat) : Int) < 8 := by omega
      have hi8y : (i : Int) < 8 := by omega
      obtain ⟨x, hx⟩ : ∃ x, f (i + 1) = x := ⟨_, rfl⟩
      obtain ⟨y, hy⟩ : ∃ y, f i = y := ⟨_, rfl⟩
      have cf := HF.out (i + 1) (by omega)
      have cg := HF.out i (by omega)
      rw [Nat.zero_add] at cf cg
      rw [hx] at cf
      rw [hy] at cg
      obtain ⟨cf1, cf2⟩ := cf
      obtain ⟨cg1, cg2⟩ := cg
      have HE1 := HE.out.1 (i + 1) (Nat.le_refl _)
      have HE2 := HE.out.1 i (by omega)
      have hyl : y < 18446744073709551616 := by rw [← hy, HE2]; exact wd_lt _ _
      obtain ⟨v, hv0⟩ : ∃ v, (x * 2 ^ s % 18446744073709551616) ||| (y / 2 ^ (64 - s)) = v := ⟨_, rfl⟩
      have hv : bits .or .u64 (IntKind.u64.wrap ((x : Int) * 2 ^ s)) ((y : Int) / 2 ^ (64 - s)) = (v : Int) := by rw [or_words hyl, hv0]
      have HVM : Hid (v = wd (M * 2 ^ s) (i + 1)) := by show _ = _; rw [wd_shl hs64, ← HE1, ← HE2, hx, hy]; exact hv0.symm
      clear hv0 hx hy HE1 HE2 hyl
      go_wp2_with fail
      go_region
      have HF2 : Hid (WordsF (wr.setCell ⟨w.heap.size + 1, i + 1, none⟩ (.int .u64 (v : Int))).drew (w.heap.size + 1) 0 (updF f (i + 1) v) 8) := by
        have := HF.out.upd (i := i + 1) (by omega) v
        rwa [Nat.zero_add] at this
      have HW2 : Hid (Below w.heap.size w (wr.setCell ⟨w.heap.size + 1, i + 1, none⟩ (.int .u64 (v : Int))).drew) := (HW.out.setCell (p := ⟨w.heap.size + 1, i + 1, none⟩) (by show w.heap.size ≤ w.heap.size + 1; omega) _).drew
      clear cf1 cf2 cg1 cg2 HF HW hv
      generalize (wr.setCell ⟨w.heap.size + 1, i + 1, none⟩ (.int .u64 (v : Int))).drew = wx at *
      go_wp2_with fail
      go_roundg (i + 1)
      case measure => have := HI.out; omega
      case rel =>
        refine ⟨i, updF f (i + 1) v, by go_num, by show _ ∧ _; have := HI.out; omega, HF2, ⟨fun t ht => ?_, fun t ht ht2 => ?_⟩, HW2⟩
        · rw [updF_other (by omega)]; exact HE.out.1 t (by omega)
        · by_cases e : t = i + 1
          · rw [e, updF_same]; exact HVM.out
          · rw [updF_other e]; exact HE.out.2 t (by omega) ht2
end Go.Proofs.YtbcnpajdmlbieaaDoor
