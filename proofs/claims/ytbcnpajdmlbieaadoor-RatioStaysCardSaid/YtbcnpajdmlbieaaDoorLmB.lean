/-
  Stage 7: limb's subtract, length, bitLength, multiplyAdd.
-/
import Derived.Test.YtbcnpajdmlbieaaDoorLmA
import Derived.Test.YtbcnpajdmlbieaaDoorApp
namespace Go.Proofs.YtbcnpajdmlbieaaDoor
open Go.RowKit Go.Sort

theorem bor_step {x y c m c' : Nat} (h : m + y + c = x + 18446744073709551616 * c') (hm : m < 18446744073709551616) (hc' : c' ≤ 1) :
    (x + 18446744073709551616 - y - c) % 18446744073709551616 = m ∧ bor x y c = c' := by
  unfold bor
  constructor
  · omega
  · split <;> omega
/-- What a difference's borrow into place i is. -/
def bw (a b i : Nat) : Nat := brw 18446744073709551616 a b i
theorem bw_step {a b i : Nat} (h : b ≤ a) (hi : i < 8) : (wd a i + 18446744073709551616 - wd b i - bw a b i) % 18446744073709551616 = wd (a - b) i ∧ bor (wd a i) (wd b i) (bw a b i) = bw a b (i + 1) :=
  bor_step (sub_step (B := 18446744073709551616) (m := a - b) (q := 0) (k := 8) (by decide) (by omega) hi) (wd_lt _ _) (brw_le _ _ _ _)
theorem WordsF.eight {w : World} {b : Nat} {f : Nat → Nat} (h : WordsF w b 0 f 8) :
    (w.cell? ⟨b, 0, none⟩ = some (.int .u64 (f 0 : Int)) ∧ w.frozen? ⟨b, 0, none⟩ = false) ∧ (w.cell? ⟨b, 1, none⟩ = some (.int .u64 (f 1 : Int)) ∧ w.frozen? ⟨b, 1, none⟩ = false) ∧
    (w.cell? ⟨b, 2, none⟩ = some (.int .u64 (f 2 : Int)) ∧ w.frozen? ⟨b, 2, none⟩ = false) ∧ (w.cell? ⟨b, 3, none⟩ = some (.int .u64 (f 3 : Int)) ∧ w.frozen? ⟨b, 3, none⟩ = false) ∧
    (w.cell? ⟨b, 4, none⟩ = some (.int .u64 (f 4 : Int)) ∧ w.frozen? ⟨b, 4, none⟩ = false) ∧ (w.cell? ⟨b, 5, none⟩ = some (.int .u64 (f 5 : Int)) ∧ w.frozen? ⟨b, 5, none⟩ = false) ∧
    (w.cell? ⟨b, 6, none⟩ = some (.int .u64 (f 6 : Int)) ∧ w.frozen? ⟨b, 6, none⟩ = false) ∧ (w.cell? ⟨b, 7, none⟩ = some (.int .u64 (f 7 : Int)) ∧ w.frozen? ⟨b, 7, none⟩ = false) := by
  have c0 := h 0 (by decide)
  have c1 := h 1 (by decide)
  have c2 := h 2 (by decide)
  have c3 := h 3 (by decide)
  have c4 := h 4 (by decide)
  have c5 := h 5 (by decide)
  have c6 := h 6 (by decide)
  have c7 := h 7 (by decide)
  simp only [Nat.zero_add] at c0 c1 c2 c3 c4 c5 c6 c7
  exact ⟨c0, c1, c2, c3, c4, c5, c6, c7⟩
set_option maxRecDepth 100000 in
set_option maxHeartbeats 4000000 in
theorem subtract_run (a b : Nat) (w : World) (hab : Hid (b ≤ a)) :
    Calls Tryd.prog 42 #[wordsV a, wordsV b] w fun e w' => e = .returned (wordsV (a - b)) ∧ Below w.heap.size w w' := by
  have h2 : w.heap.size ≤ w.heap.size + 1 + 1 := by omega
  have T := Lib.hid (three_boxes w a b 61 61 61)
  unfold wordsV
  go_enter Tryd.func42, Tryd.ntmps42
  go_wp2_with fail
  go_loopg [5, 7] 10 (fun h s5 s7 wr => ∃ (i c : Nat) (f : Nat → Nat), s5 = .int .u64 (c : Int) ∧ s7 = .int .i64 (i : Int) ∧ Hid (i ≤ 8 ∧ 9 ≤ i + h) ∧ Hid (c = bw a b i) ∧ Hid (WordsAt wr w.heap.size 0 a 8) ∧ Hid (WordsAt wr (w.heap.size + 1) 0 b 8) ∧ Hid (WordsF wr (w.heap.size + 1 + 1) 0 f 8) ∧ Hid (∀ j, j < i → f j = wd (a - b) j) ∧ Hid (Below w.heap.size w wr))
  case atStart => exact ⟨0, 0, wd 0, rfl, rfl, by show _ ∧ _; omega, (brw_zero _ a b).symm, T.out.1, T.out.2.1, T.out.2.2.1, fun j hj => absurd hj (by omega), T.out.2.2.2⟩
  case round =>
    clear T
    obtain ⟨i, c, f, rfl, rfl, HI, HC, HA, HB, HF, HE, HW⟩ := hrel
    by_cases hlt : i < 8
    · have hltz : (i : Int) < 8 := by omega
      obtain ⟨x, hx⟩ : ∃ x, wd a i = x := ⟨_, rfl⟩
      obtain ⟨y, hy⟩ : ∃ y, wd b i = y := ⟨_, rfl⟩
      have ca := (HA.out i hlt).1
      have cb := (HB.out i hlt).1
      have cf := HF.out i hlt
      rw [Nat.zero_add] at ca cb cf
      rw [hx] at ca
      rw [hy] at cb
      obtain ⟨cf1, cf2⟩ := cf
      obtain ⟨s, hs⟩ : ∃ s, (x + 18446744073709551616 - y - c) % 18446744073709551616 = s := ⟨_, rfl⟩
      obtain ⟨d, hd⟩ : ∃ d, bor x y c = d := ⟨_, rfl⟩
      have hsub := sub64_run x y c (HC.out ▸ brw_le _ a b i)
      rw [hs, hd] at hsub
      have hst := bw_step hab.out hlt
      rw [hx, hy, ← HC.out] at hst
      have HS : Hid (s = wd (a - b) i) := hs.symm.trans hst.1
      have HD : Hid (d = bw a b (i + 1)) := hd.symm.trans hst.2
      clear hs hd hx hy hst
      go_wp2_with fail
      go_region
      go_wp2_with fail
      go_roundg (8 - i)
      case measure => have := HI.out; omega
      case rel =>
        have hF := HF.out.upd hlt s
        rw [Nat.zero_add] at hF
        refine ⟨i + 1, d, updF f i s, rfl, by go_num, by show _ ∧ _; have := HI.out; omega, HD, HA.out.set ⟨w.heap.size + 1 + 1, i, none⟩ _ (by show w.heap.size + 1 + 1 ≠ w.heap.size; omega), HB.out.set ⟨w.heap.size + 1 + 1, i, none⟩ _ (by show w.heap.size + 1 + 1 ≠ w.heap.size + 1; omega), hF, fun j hj => ?_, (HW.out.setCell (p := ⟨w.heap.size + 1 + 1, _, none⟩) h2 _).drew⟩
        by_cases e : j = i
        · rw [e, updF_same]; exact HS.out
        · rw [updF_other e]; exact HE.out j (by omega)
    · obtain rfl : i = 8 := by have := HI.out; omega
      obtain ⟨⟨c0, d0⟩, ⟨c1, d1⟩, ⟨c2, d2⟩, ⟨c3, d3⟩, ⟨c4, d4⟩, ⟨c5, d5⟩, ⟨c6, d6⟩, ⟨c7, d7⟩⟩ := (HF.out.ext HE.out).eight
      clear HA HB HF HE HC
      go_wp2_with fail
      refine bodyPost_ret (v := wordsV (a - b)) (by rw [results_cell1 rfl]; go_simp; try rfl) rfl ⟨rfl, ?_⟩
      exact ((((((((HW.out.setCell (p := ⟨w.heap.size + 1 + 1, _, none⟩) h2 _).setCell (p := ⟨w.heap.size + 1 + 1, _, none⟩) h2 _).setCell (p := ⟨w.heap.size + 1 + 1, _, none⟩) h2 _).setCell (p := ⟨w.heap.size + 1 + 1, _, none⟩) h2 _).setCell (p := ⟨w.heap.size + 1 + 1, _, none⟩) h2 _).setCell (p := ⟨w.heap.size + 1 + 1, _, none⟩) h2 _).setCell (p := ⟨w.heap.size + 1 + 1, _, none⟩) h2 _).setCell (p := ⟨w.heap.size + 1 + 1, _, none⟩) h2 _)
theorem box_at (w : World) (a : Nat) (T : TypeId) : WordsAt (w.alloc (boxO a T)) w.heap.size 0 a 8 ∧ Below w.heap.size w (w.alloc (boxO a T)) := ⟨WordsAt.new w a T, below_alloc w _⟩
/-- Of how many words n is. -/
def wl (n : Nat) : Nat := nlen 18446744073709551616 n
theorem wl_le {n : Nat} (h : Fits n) : wl n ≤ 8 := nlen_le_of_lt (by decide) h
theorem low_zero {n j : Nat} (h : n < 18446744073709551616 ^ (j + 1)) (hz : wd n j = 0) : n < 18446744073709551616 ^ j := by
  rcases Nat.lt_or_ge n (18446744073709551616 ^ j) with h1 | h1
  · exact h1
  · have hP : 0 < 18446744073709551616 ^ j := Nat.pow_pos (by decide)
    have h2 : n / 18446744073709551616 ^ j < 18446744073709551616 := (Nat.div_lt_iff_lt_mul hP).2 (by rw [Nat.pow_succ, Nat.mul_comm] at h; exact h)
    have h3 : n / 18446744073709551616 ^ j = 0 := by
      have : n / 18446744073709551616 ^ j % 18446744073709551616 = 0 := hz
      rwa [Nat.mod_eq_of_lt h2] at this
    have := Nat.div_pos h1 hP
    omega
theorem wl_here {n j : Nat} (h : n < 18446744073709551616 ^ (j + 1)) (hz : wd n j ≠ 0) : wl n = j + 1 := by
  apply nlen_uniq (by decide) h
  intro _
  rcases Nat.lt_or_ge n (18446744073709551616 ^ j) with h1 | h1
  · exact absurd (dig_high h1) hz
  · exact h1
set_option maxRecDepth 100000 in
set_option maxHeartbeats 4000000 in
theorem length_run (a : Nat) (w : World) (ha : Hid (Fits a)) :
    Calls Tryd.prog 44 #[wordsV a] w fun e w' => e = .returned (.int .i64 (wl a : Int)) ∧ Below w.heap.size w w' := by
  have T := Lib.hid (box_at w a 61)
  obtain ⟨L, hL⟩ : ∃ L, wl a = L := ⟨_, rfl⟩
  have HL := Lib.hid hL
  rw [hL]
  clear hL
  unfold wordsV
  go_enter Tryd.func44, Tryd.ntmps44
  go_wp2_with fail
  go_loopg [3] 10 (fun h s3 wr => ∃ (j : Nat), s3 = .int .i64 (j : Int) ∧ Hid (j ≤ 8 ∧ j < h) ∧ Hid (a < 18446744073709551616 ^ j) ∧ Hid (WordsAt wr w.heap.size 0 a 8) ∧ Hid (Below w.heap.size w wr))
  case atStart => exact ⟨8, rfl, by show _ ∧ _; omega, ha.out, T.out.1, T.out.2⟩
  case round =>
    clear T
    obtain ⟨j, rfl, HJ, HN, HA, HW⟩ := hrel
    cases j with
    | zero =>
      have HV : Hid ((0 : Int) = (L : Int)) := by
        have h0 : a = 0 := by have := HN.out; rw [Nat.pow_zero] at this; omega
        show _ = _
        rw [← HL.out, h0, wl, nlen_zero]
        rfl
      go_wp2_with fail
      go_ret
      exact ⟨ret_int HV.out, HW.out⟩
    | succ i =>
      have hi8 : i < 8 := by have := HJ.out; omega
      have hz : (i : Int) < 8 := by omega
      have hp : (0 : Int) < (i : Int) + 1 := by omega
      have hp2 : (0 : Int) < ((i + 1 : Nat) : Int) := by omega
      have hw1 : IntKind.i64.wrap (((i + 1 : Nat) : Int) - 1) = (i : Int) := by rw [IntKind.wrap_i64]; omega
      have ca := (HA.out i hi8).1
      rw [Nat.zero_add] at ca
      obtain ⟨x, hx⟩ : ∃ x, wd a i = x := ⟨_, rfl⟩
      rw [hx] at ca
      have HX := Lib.hid hx
      clear hx
      by_cases hd : x = 0
      · subst hd
        have HN2 : Hid (a < 18446744073709551616 ^ i) := low_zero HN.out HX.out
        go_wp2_with fail
        go_roundg (i + 1)
        case measure => have := HJ.out; omega
        case rel => exact ⟨i, by go_num, by show _ ∧ _; have := HJ.out; omega, HN2, HA, HW⟩
      · have hdz : ((x : Int) == 0) = false := by simpa using hd
        have HV : Hid (((i + 1 : Nat) : Int) = (L : Int)) := by
          have := wl_here HN.out (by rw [HX.out]; exact hd)
          rw [HL.out] at this
          show _ = _
          omega
        go_wp2_with fail
        go_ret
        exact ⟨ret_int HV.out, HW.out⟩
theorem bitLen_eq (x f : Nat) (h : x < 2 ^ f) : Lib.bitLenAux f x = nlen 2 x := by
  induction f generalizing x with
  | zero => simp at h; subst h; rw [nlen_zero]; rfl
  | succ f ih =>
    show (if x = 0 then 0 else 1 + Lib.bitLenAux f (x / 2)) = _
    by_cases hx : x = 0
    · rw [if_pos hx, hx, nlen_zero]
    · rw [if_neg hx, ih (x / 2) (by rw [Nat.pow_succ] at h; omega), nlen_pos (by decide) hx]
      omega
theorem nlen2_shift (s n : Nat) (h : n / 2 ^ s ≠ 0) : nlen 2 n = s + nlen 2 (n / 2 ^ s) := by
  induction s generalizing n with
  | zero => simp
  | succ s ih =>
    rw [Nat.pow_succ, Nat.mul_comm, ← Nat.div_div_eq_div_mul] at h ⊢
    have hn : n ≠ 0 := fun e => by subst e; simp at h
    rw [nlen_pos (by decide) hn, ih (n / 2) h]
    omega
theorem bits_words {n k : Nat} (h : wl n = k + 1) : nlen 2 n = k * 64 + Lib.bitLen (wd n k) := by
  have hn : n ≠ 0 := fun e => by subst e; rw [wl, nlen_zero] at h; omega
  have ht := dig_top (B := 18446744073709551616) (by decide) hn
  have hk : nlen 18446744073709551616 n - 1 = k := by unfold wl at h; omega
  rw [hk] at ht
  have e : (18446744073709551616 : Nat) ^ k = 2 ^ (k * 64) := by rw [Nat.mul_comm, Nat.pow_mul]
  rw [e] at ht
  have := nlen2_shift (k * 64) n (by omega)
  rw [this, Lib.bitLen, bitLen_eq _ _ (show wd n k < 2 ^ 64 from wd_lt n k)]
  have hd : wd n k = n / 2 ^ (k * 64) := ht.1
  rw [hd]
theorem madd_eq {x y c d : Nat} (hx : x < 18446744073709551616) (hy : y < 18446744073709551616) (hc : c < 18446744073709551616) (hd : d < 18446744073709551616) :
    ((x * y % 18446744073709551616 + c) % 18446744073709551616 + d) % 18446744073709551616 = (x * y + c + d) % 18446744073709551616 ∧
    x * y / 18446744073709551616 + (x * y % 18446744073709551616 + c) / 18446744073709551616 + ((x * y % 18446744073709551616 + c) % 18446744073709551616 + d) / 18446744073709551616 = (x * y + c + d) / 18446744073709551616 ∧
    (x * y + c + d) / 18446744073709551616 < 18446744073709551616 := by
  have h1 : x * y ≤ 18446744073709551615 * 18446744073709551615 := Nat.mul_le_mul (by omega) (by omega)
  generalize x * y = p at *
  omega
set_option maxRecDepth 100000 in
set_option maxHeartbeats 4000000 in
theorem multiplyAdd_run (x y c d : Nat) (w : World) (hx : x < 18446744073709551616) (hy : y < 18446744073709551616) (hc : c < 18446744073709551616) (hd : d < 18446744073709551616) :
    Calls Tryd.prog 45 #[.int .u64 (x : Int), .int .u64 (y : Int), .int .u64 (c : Int), .int .u64 (d : Int)] w fun e w' =>
      e = .returned (.tuple #[.int .u64 (((x * y + c + d) / 18446744073709551616 : Nat) : Int), .int .u64 (((x * y + c + d) % 18446744073709551616 : Nat) : Int)]) ∧ w' = w := by
  obtain ⟨e1, e2, e3⟩ := madd_eq hx hy hc hd
  have HM := Lib.hid (fun W => Tryd.bits_Mul64 x y hx hy W)
  obtain ⟨hi, hhi⟩ : ∃ hi, x * y / 18446744073709551616 = hi := ⟨_, rfl⟩
  obtain ⟨lo, hlo⟩ : ∃ lo, x * y % 18446744073709551616 = lo := ⟨_, rfl⟩
  obtain ⟨H, hH⟩ : ∃ H, (x * y + c + d) / 18446744073709551616 = H := ⟨_, rfl⟩
  obtain ⟨L, hL⟩ : ∃ L, (x * y + c + d) % 18446744073709551616 = L := ⟨_, rfl⟩
  rw [hhi, hlo] at HM
  rw [hlo, hL] at e1
  rw [hhi, hlo, hH] at e2
  rw [hH] at e3
  rw [hH, hL]
  clear hhi hlo hH hL hx hy hc hd
  obtain ⟨s, hs⟩ : ∃ s, (lo + c) % 18446744073709551616 = s := ⟨_, rfl⟩
  obtain ⟨k, hk⟩ : ∃ k, (lo + c) / 18446744073709551616 = k := ⟨_, rfl⟩
  obtain ⟨k2, hk2⟩ : ∃ k2, (s + d) / 18446744073709551616 = k2 := ⟨_, rfl⟩
  have a1 : ∀ W, (callFunc 43 #[.int .u64 (lo : Int), .int .u64 (c : Int), .int .u64 0]).run Tryd.prog W = .ok (.value (.tuple #[.int .u64 (s : Int), .int .u64 (k : Int)])) W := fun W => by
    have := add64_run lo c 0 (by decide) W
    rwa [Nat.add_zero, hs, hk] at this
  rw [hs, hk, hk2] at e2
  rw [hs] at e1
  have a2 : ∀ W, (callFunc 43 #[.int .u64 (s : Int), .int .u64 (d : Int), .int .u64 0]).run Tryd.prog W = .ok (.value (.tuple #[.int .u64 (L : Int), .int .u64 (k2 : Int)])) W := fun W => by
    have := add64_run s d 0 (by decide) W
    rwa [Nat.add_zero, e1, hk2] at this
  have w1 : (hi : Int) + (k : Int) ≤ 18446744073709551615 := by omega
  have w2 : IntKind.u64.wrap ((hi : Int) + (k : Int) + (k2 : Int)) = (H : Int) := by rw [IntKind.wrap_u64]; omega
  clear hs hk hk2 e1 e2 e3
  go_enter Tryd.func45, Tryd.ntmps45
  go_wp2_with fail
  refine (HM.out _).mono ?_
  rintro e w1 ⟨rfl, rfl⟩
  go_wp2
  go_ret2
  exact ⟨rfl, rfl⟩
end Go.Proofs.YtbcnpajdmlbieaaDoor
