/-
  Stage 7: limb's multiply.
-/
import Derived.Test.YtgoemhcngmpfbaaGreatDoorMv02
import Derived.Deep.AppendLies
namespace Go.Proofs.YtgoemhcngmpfbaaGreatDoor
open Go.RowKit Go.Sort
def rowQ (a b i : Nat) : Nat := a % 18446744073709551616 ^ i * b
def rowM (a b i : Nat) : Nat := rowQ a b i / 18446744073709551616 ^ i + wd a i * b
def rowC (a b i j : Nat) : Nat := car 18446744073709551616 1 (rowQ a b i / 18446744073709551616 ^ i) (wd a i) b 0 j
theorem rowQ_zero (a b : Nat) : rowQ a b 0 = 0 := by simp [rowQ, Nat.mod_one]
theorem rowQ_lt {a b i : Nat} (hb : Fits b) : rowQ a b i < 18446744073709551616 ^ (i + 8) := by
 have h1 : a % 18446744073709551616 ^ i < 18446744073709551616 ^ i := Nat.mod_lt _ (Nat.pow_pos (by decide))
 rw [Nat.pow_add]
 exact Nat.mul_lt_mul'' h1 hb
theorem rowQ_div {a b i : Nat} (hb : Fits b) : rowQ a b i / 18446744073709551616 ^ i < 18446744073709551616 ^ 8 := by
 apply (Nat.div_lt_iff_lt_mul (Nat.pow_pos (by decide))).2
 rw [Nat.mul_comm, ← Nat.pow_add]
 exact rowQ_lt hb
theorem rowC_zero (a b i : Nat) : rowC a b i 0 = 0 := car_zero _ _ _ _ _ _
theorem rowC_lt (a b i j : Nat) : rowC a b i j < 18446744073709551616 := car_lt (by decide) 1 _ (wd a i) b 0 j (by have := wd_lt a i; omega) (by decide)
theorem rowC_step (a b i j : Nat) : (wd a i * wd b j + wd (rowQ a b i) (i + j) + rowC a b i j) % 18446744073709551616 = wd (rowM a b i) j ∧ (wd a i * wd b j + wd (rowQ a b i) (i + j) + rowC a b i j) / 18446744073709551616 = rowC a b i (j + 1) := by
 have h1 := lin_mod (B := 18446744073709551616) (by decide) 1 (rowQ a b i / 18446744073709551616 ^ i) (wd a i) b 0 j
 have h2 := lin_div (B := 18446744073709551616) (by decide) 1 (rowQ a b i / 18446744073709551616 ^ i) (wd a i) b 0 j
 rw [dig_div, Nat.one_mul, Nat.one_mul, Nat.add_zero, Nat.add_comm j i, Nat.add_comm (dig _ (rowQ a b i) (i + j))] at h1
 rw [dig_div, Nat.one_mul, Nat.add_comm j i, Nat.add_comm (dig _ (rowQ a b i) (i + j))] at h2
 exact ⟨h1, h2⟩
theorem rowM_lt {a b i : Nat} (hb : Fits b) : rowM a b i < 18446744073709551616 ^ 9 := by
 have h1 := rowQ_div (a := a) (i := i) hb
 have h2 : wd a i * b ≤ 18446744073709551615 * b := Nat.mul_le_mul_right _ (by have := wd_lt a i; omega)
 have h3 : b < 18446744073709551616 ^ 8 := hb
 unfold rowM
 rw [Nat.pow_succ]
 generalize (18446744073709551616 : Nat) ^ 8 = P at *
 generalize wd a i * b = x at *
 omega
theorem rowC_top {a b i : Nat} (hb : Fits b) : rowC a b i 8 = wd (rowM a b i) 8 := by
 have h1 := car_top 18446744073709551616 1 (wd a i) 0 8 (rowQ_div (a := a) (i := i) hb) hb
 have h2 : rowM a b i / 18446744073709551616 ^ 8 < 18446744073709551616 := (Nat.div_lt_iff_lt_mul (Nat.pow_pos (by decide))).2 (by have := rowM_lt (a := a) (i := i) hb; rwa [Nat.pow_succ, Nat.mul_comm] at this)
 have h3 : rowC a b i 8 = rowM a b i / 18446744073709551616 ^ 8 := by unfold rowC rowM; rw [h1, Nat.one_mul, Nat.add_zero]
 rw [h3]
 exact (Nat.mod_eq_of_lt h2).symm
theorem rowQ_succ (a b i : Nat) : rowQ a b (i + 1) = 18446744073709551616 ^ i * rowM a b i + rowQ a b i % 18446744073709551616 ^ i := by
 have h1 := Nat.div_add_mod (rowQ a b i) (18446744073709551616 ^ i)
 have h2 : rowQ a b (i + 1) = rowQ a b i + 18446744073709551616 ^ i * (wd a i * b) := by
  unfold rowQ
  rw [mod_succ, Nat.add_mul, Nat.mul_assoc]
  rfl
 rw [h2, rowM, Nat.mul_add]
 generalize 18446744073709551616 ^ i * (wd a i * b) = x at *
 generalize 18446744073709551616 ^ i * (rowQ a b i / 18446744073709551616 ^ i) = y at *
 generalize rowQ a b i % 18446744073709551616 ^ i = z at *
 omega
theorem rowQ_low {a b i t : Nat} (h : t < i) : wd (rowQ a b (i + 1)) t = wd (rowQ a b i) t := by
 unfold wd
 rw [← dig_mod (j := i) h, ← dig_mod (n := rowQ a b i) (j := i) h, rowQ_succ, Nat.mul_add_mod, Nat.mod_mod]
theorem rowQ_high (a b i u : Nat) : wd (rowQ a b (i + 1)) (i + u) = wd (rowM a b i) u := by
 unfold wd
 rw [Nat.add_comm i u, ← dig_div, rowQ_succ, Nat.mul_add_div (Nat.pow_pos (by decide)), Nat.div_eq_of_lt (Nat.mod_lt _ (Nat.pow_pos (by decide))), Nat.add_zero]
theorem rowQ_end {a b L : Nat} (h : a < 18446744073709551616 ^ L) : rowQ a b L = a * b := by rw [rowQ, Nat.mod_eq_of_lt h]
theorem row_done {a b i : Nat} (hb : Fits b) {f : Nat → Nat} (h1 : ∀ t, t < i → f t = wd (rowQ a b i) t) (h2 : ∀ t, t < 8 → f (i + t) = wd (rowM a b i) t) (h3 : ∀ t, i + 8 ≤ t → t < 16 → f t = wd (rowQ a b i) t) :
  ∀ t, t < 16 → updF f (i + 8) (rowC a b i 8) t = wd (rowQ a b (i + 1)) t := fun t ht => by
 by_cases e : t = i + 8
 ·rw [e, updF_same, rowQ_high, rowC_top hb]
 ·rw [updF_other e]
  rcases Nat.lt_or_ge t i with ht1 | ht1
  ·rw [h1 t ht1, rowQ_low ht1]
  ·obtain ⟨u, rfl⟩ : ∃ u, t = i + u := ⟨t - i, by omega⟩
   rw [rowQ_high]
   rcases Nat.lt_or_ge u 8 with hu | hu
   ·exact h2 u hu
   ·rw [h3 _ (by omega) ht]
    have p1 : wd (rowQ a b i) (i + u) = 0 := dig_high (Nat.lt_of_lt_of_le (rowQ_lt hb) (Nat.pow_le_pow_right (by decide) (by omega)))
    have p2 : wd (rowM a b i) u = 0 := dig_high (Nat.lt_of_lt_of_le (rowM_lt hb) (Nat.pow_le_pow_right (by decide) (by omega)))
    rw [p1, p2]
abbrev boxZ16 (T : TypeId) : Obj := .cells #[.int .u64 0, .int .u64 0, .int .u64 0, .int .u64 0, .int .u64 0, .int .u64 0, .int .u64 0, .int .u64 0, .int .u64 0, .int .u64 0, .int .u64 0, .int .u64 0, .int .u64 0, .int .u64 0, .int .u64 0, .int .u64 0] T
theorem WordsAt.zero16 (w : World) (T : TypeId) : WordsAt (w.alloc (boxZ16 T)) w.heap.size 0 0 16 := by
 intro i hi
 rw [wd_zero]
 rcases i with _ | _ | _ | _ | _ | _ | _ | _ | _ | _ | _ | _ | _ | _ | _ | _ | i
 all_goals first | exact ⟨World.cell?_alloc_at _ _ _ _ rfl, World.frozen?_alloc_at _ _ _ _ rfl⟩ | omega
def mulW (w : World) (a b : Nat) : World := ((((w.alloc (boxO a 119)).alloc (boxO b 119)).alloc (boxZ 119)).alloc (boxZ 119)).alloc (boxZ16 203)
theorem five_boxes (w : World) (a b : Nat) : WordsAt (mulW w a b) w.heap.size 0 a 8 ∧ WordsAt (mulW w a b) (w.heap.size + 1) 0 b 8 ∧ WordsAt (mulW w a b) (w.heap.size + 1 + 1) 0 0 8 ∧ WordsAt (mulW w a b) (w.heap.size + 1 + 1 + 1) 0 0 8 ∧ WordsAt (mulW w a b) (w.heap.size + 1 + 1 + 1 + 1) 0 0 16 ∧ Below w.heap.size w (mulW w a b) ∧ (mulW w a b).heap.size = w.heap.size + 1 + 1 + 1 + 1 + 1 := by
 obtain ⟨h1, h2, h3, h4⟩ := three_boxes w a b 119 119 119
 have s3 : (((w.alloc (boxO a 119)).alloc (boxO b 119)).alloc (boxZ 119)).heap.size = w.heap.size + 1 + 1 + 1 := by simp
 have h5 := WordsAt.zero (((w.alloc (boxO a 119)).alloc (boxO b 119)).alloc (boxZ 119)) 119
 have h6 := WordsAt.zero16 ((((w.alloc (boxO a 119)).alloc (boxO b 119)).alloc (boxZ 119)).alloc (boxZ 119)) 203
 have s4 : ((((w.alloc (boxO a 119)).alloc (boxO b 119)).alloc (boxZ 119)).alloc (boxZ 119)).heap.size = w.heap.size + 1 + 1 + 1 + 1 := by simp
 rw [s3] at h5
 rw [s4] at h6
 unfold mulW
 have k4 : ∀ x, x < w.heap.size + 1 + 1 + 1 + 1 → x < ((((w.alloc (boxO a 119)).alloc (boxO b 119)).alloc (boxZ 119)).alloc (boxZ 119)).heap.size := fun x hx => Nat.lt_of_lt_of_eq hx s4.symm
 exact ⟨(h1.alloc (by omega) _).alloc (k4 _ (by omega)) _, (h2.alloc (by omega) _).alloc (k4 _ (by omega)) _, (h3.alloc (by omega) _).alloc (k4 _ (by omega)) _, h5.alloc (k4 _ (by omega)) _, h6, (h4.alloc (by omega) _).alloc (Nat.le_of_lt (k4 _ (by omega))) _, by simp⟩
theorem results_cell2 {fn : Func} {p q : Tmp} {ty tz : TypeId} (h : fn.results = #[.cell p ty, .cell q tz]) (tmps : Array Value) (P : Program) (w : World) :
  (results fn tmps).run P w = ((asAddr (tmps.getD p undef)).run P w).andThen fun a w₁ => ((loadVar ty a).run P w₁).andThen fun v w₂ => ((asAddr (tmps.getD q undef)).run P w₂).andThen fun b w₃ => ((loadVar tz b).run P w₃).andThen fun u w₄ => .ok (.tuple #[v, u]) w₄ := by
 simp only [results, h]
 simp [Sem.run_bind, Result.andThen]
theorem below_set8 {B b : Nat} {a w : World} (h : Below B a w) (hB : B ≤ b) (v0 v1 v2 v3 v4 v5 v6 v7 : Value) :
  Below B a ((((((((w.setCell ⟨b, 0, none⟩ v0).setCell ⟨b, 1, none⟩ v1).setCell ⟨b, 2, none⟩ v2).setCell ⟨b, 3, none⟩ v3).setCell ⟨b, 4, none⟩ v4).setCell ⟨b, 5, none⟩ v5).setCell ⟨b, 6, none⟩ v6).setCell ⟨b, 7, none⟩ v7) :=
 (((((((h.setCell (p := ⟨b, 0, none⟩) hB _).setCell (p := ⟨b, 1, none⟩) hB _).setCell (p := ⟨b, 2, none⟩) hB _).setCell (p := ⟨b, 3, none⟩) hB _).setCell (p := ⟨b, 4, none⟩) hB _).setCell (p := ⟨b, 5, none⟩) hB _).setCell (p := ⟨b, 6, none⟩) hB _).setCell (p := ⟨b, 7, none⟩) hB _
set_option maxRecDepth 100000 in
set_option maxHeartbeats 8000000 in
theorem multiply_run (a b : Nat) (w : World) (ha : Hid (Fits a)) (hb : Hid (Fits b)) :
  Calls Tryz.prog 128 #[wordsV a, wordsV b] w fun e w' => e = .returned (.tuple #[wordsV (a * b), wordsV (a * b / 18446744073709551616 ^ 8)]) ∧ Below w.heap.size w w' := by
 obtain ⟨S, hS⟩ : ∃ S, w.heap.size = S := ⟨_, rfl⟩
 obtain ⟨L, hL⟩ : ∃ L, wl a = L := ⟨_, rfl⟩
 have HL := Lib.hid hL
 have HC := Lib.hid (fun W => length_run a W ha)
 rw [hL] at HC
 have T := Lib.hid (five_boxes w a b)
 obtain ⟨⟨c0, d0⟩, ⟨c1, d1⟩, ⟨c2, d2⟩, ⟨c3, d3⟩, ⟨c4, d4⟩, ⟨c5, d5⟩, ⟨c6, d6⟩, ⟨c7, d7⟩⟩ := T.out.1.eight
 unfold mulW at c0 c1 c2 c3 c4 c5 c6 c7 d0 d1 d2 d3 d4 d5 d6 d7
 have hL8 : L ≤ 8 := hL ▸ wl_le ha.out
 clear hL
 unfold wordsV at HC ⊢
 go_enter Tryz.func128, Tryz.ntmps128
 go_wp2_with fail
 refine (HC.out _).mono ?_
 rintro e w1 ⟨rfl, hw1⟩
 have HA1 : Hid (WordsAt w1 S 0 a 8) := by have := T.out.1.keep hw1 (by show w.heap.size < _; exact Nat.lt_of_lt_of_eq (by omega) T.out.2.2.2.2.2.2.symm); rwa [hS] at this
 have HB1 : Hid (WordsAt w1 (S + 1) 0 b 8) := by have := T.out.2.1.keep hw1 (by simp <;> omega); rwa [hS] at this
 have HX1 : Hid (WordsAt w1 (S + 1 + 1) 0 0 8) := by have := T.out.2.2.1.keep hw1 (by simp <;> omega); rwa [hS] at this
 have HY1 : Hid (WordsAt w1 (S + 1 + 1 + 1) 0 0 8) := by have := T.out.2.2.2.1.keep hw1 (by simp <;> omega); rwa [hS] at this
 have HP1 : Hid (WordsAt w1 (S + 1 + 1 + 1 + 1) 0 0 16) := by have := T.out.2.2.2.2.1.keep hw1 (by show w.heap.size + 1 + 1 + 1 + 1 < _; exact Nat.lt_of_lt_of_eq (by omega) T.out.2.2.2.2.2.2.symm); rwa [hS] at this
 have HW1 : Hid (Below S w w1) := by have := T.out.2.2.2.2.2.1.trans (hw1.mono (by simp; omega)); rwa [hS] at this
 clear hw1 T c0 c1 c2 c3 c4 c5 c6 c7 d0 d1 d2 d3 d4 d5 d6 d7 HC
 go_wp2_with fail
 go_loopg [12] (L + 2) (fun h s12 wr => ∃ (i : Nat) (f : Nat → Nat), s12 = .int .i64 (i : Int) ∧ Hid (i ≤ L ∧ L < i + h) ∧ Hid (WordsAt wr S 0 a 8) ∧ Hid (WordsAt wr (S + 1) 0 b 8) ∧ Hid (WordsAt wr (S + 1 + 1) 0 0 8) ∧ Hid (WordsAt wr (S + 1 + 1 + 1) 0 0 8) ∧ Hid (WordsF wr (S + 1 + 1 + 1 + 1) 0 f 16) ∧ Hid (∀ t, t < 16 → f t = wd (rowQ a b i) t) ∧ Hid (Below S w wr))
 case atStart => exact ⟨0, wd 0, rfl, by show _ ∧ _; omega, HA1, HB1, HX1, HY1, HP1, fun t _ => by rw [rowQ_zero], HW1⟩
 case round =>
  clear HA1 HB1 HX1 HY1 HP1 HW1
  obtain ⟨i, f, rfl, HI, HA, HB, HX, HY, HF, HE, HW⟩ := hrel
  by_cases hlt : i < L
  ·have hltz : (i : Int) < (L : Int) := by omega
   go_wp2_with fail
   generalize wr = wo at *
   go_loopg [8, 15] 10 (fun h s8 s15 wr => ∃ (j c : Nat) (f : Nat → Nat), s8 = .int .u64 (c : Int) ∧ s15 = .int .i64 (j : Int) ∧ Hid (j ≤ 8 ∧ 9 ≤ j + h) ∧ Hid (c = rowC a b i j) ∧ Hid (WordsAt wr S 0 a 8) ∧ Hid (WordsAt wr (S + 1) 0 b 8) ∧ Hid (WordsAt wr (S + 1 + 1) 0 0 8) ∧ Hid (WordsAt wr (S + 1 + 1 + 1) 0 0 8) ∧ Hid (WordsF wr (S + 1 + 1 + 1 + 1) 0 f 16) ∧ Hid ((∀ t, t < i → f t = wd (rowQ a b i) t) ∧ (∀ t, t < j → f (i + t) = wd (rowM a b i) t) ∧ (∀ t, i + j ≤ t → t < 16 → f t = wd (rowQ a b i) t)) ∧ Hid (Below S w wr))
   case atStart => exact ⟨0, 0, f, rfl, rfl, by show _ ∧ _; omega, (rowC_zero a b i).symm, HA, HB, HX, HY, HF, ⟨fun t ht => HE.out t (by omega), fun t ht => absurd ht (by omega), fun t _ ht => HE.out t ht⟩, HW⟩
   case round =>
    clear HA HB HX HY HF HE HW
    obtain ⟨j, c, g, rfl, rfl, HJ, HC, HA, HB, HX, HY, HF, HE, HW⟩ := hrel
    by_cases hj : j < 8
    ·have hjz : (j : Int) < 8 := by omega
     have hi8 : i < 8 := by omega
     have hiz : (i : Int) < 8 := by omega
     obtain ⟨m, hm⟩ : ∃ m, i + j = m := ⟨_, rfl⟩
     have HMM := Lib.hid hm
     have hmz : (i : Int) + (j : Int) = (m : Int) := by omega
     have hm16 : m < 16 := by omega
     have hmz16 : (m : Int) < 16 := by omega
     have hmw : IntKind.i64.wrap (m : Int) = (m : Int) := by rw [IntKind.wrap_i64]; omega
     obtain ⟨x, hx⟩ : ∃ x, wd a i = x := ⟨_, rfl⟩
     obtain ⟨y, hy⟩ : ∃ y, wd b j = y := ⟨_, rfl⟩
     obtain ⟨z, hz⟩ : ∃ z, g m = z := ⟨_, rfl⟩
     have ca := (HA.out i hi8).1
     have cb := (HB.out j hj).1
     have cf := HF.out m hm16
     rw [Nat.zero_add] at ca cb cf
     rw [hx] at ca
     rw [hy] at cb
     rw [hz] at cf
     obtain ⟨cf1, cf2⟩ := cf
     have hzq : z = wd (rowQ a b i) (i + j) := by rw [← hz, hm]; exact HE.out.2.2 m (by omega) hm16
     have hst := rowC_step a b i j
     have HM : Hid (∀ W, Calls Tryz.prog 131 #[.int .u64 (x : Int), .int .u64 (y : Int), .int .u64 (z : Int), .int .u64 (c : Int)] W fun e w' => e = .returned (.tuple #[.int .u64 (rowC a b i (j + 1) : Int), .int .u64 (wd (rowM a b i) j : Int)]) ∧ w' = W) := fun W => by
      have := multiplyAdd_run x y z c W (hx ▸ wd_lt a i) (hy ▸ wd_lt b j) (hzq ▸ wd_lt _ _) (HC.out ▸ rowC_lt a b i j)
      rw [hx, hy, ← hzq, ← HC.out] at hst
      rwa [hst.1, hst.2] at this
     obtain ⟨c2, hc2⟩ : ∃ c2, rowC a b i (j + 1) = c2 := ⟨_, rfl⟩
     obtain ⟨s, hs⟩ : ∃ s, wd (rowM a b i) j = s := ⟨_, rfl⟩
     rw [hc2, hs] at HM
     have HC2 := Lib.hid hc2
     have HS := Lib.hid hs
     clear hx hy hz hzq hst hc2 hs hm
     go_wp2_with fail
     go_region_with (go_at_call 131; refine (HM.out _).mono ?_; rintro e w1 ⟨rfl, rfl⟩)
     all_goals
      have KF := HF.out.upd hm16 s
      rw [Nat.zero_add] at KF
      have HF2 : Hid (WordsF (wr.setCell ⟨S + 1 + 1 + 1 + 1, m, none⟩ (.int .u64 (s : Int))).drew (S + 1 + 1 + 1 + 1) 0 (updF g m s) 16) := KF
      have HA2 : Hid (WordsAt (wr.setCell ⟨S + 1 + 1 + 1 + 1, m, none⟩ (.int .u64 (s : Int))).drew S 0 a 8) := HA.out.set ⟨S + 1 + 1 + 1 + 1, m, none⟩ _ (by show S + 1 + 1 + 1 + 1 ≠ S; omega)
      have HB2 : Hid (WordsAt (wr.setCell ⟨S + 1 + 1 + 1 + 1, m, none⟩ (.int .u64 (s : Int))).drew (S + 1) 0 b 8) := HB.out.set ⟨S + 1 + 1 + 1 + 1, m, none⟩ _ (by show S + 1 + 1 + 1 + 1 ≠ S + 1; omega)
      have HX2 : Hid (WordsAt (wr.setCell ⟨S + 1 + 1 + 1 + 1, m, none⟩ (.int .u64 (s : Int))).drew (S + 1 + 1) 0 0 8) := HX.out.set ⟨S + 1 + 1 + 1 + 1, m, none⟩ _ (by show S + 1 + 1 + 1 + 1 ≠ S + 1 + 1; omega)
      have HY2 : Hid (WordsAt (wr.setCell ⟨S + 1 + 1 + 1 + 1, m, none⟩ (.int .u64 (s : Int))).drew (S + 1 + 1 + 1) 0 0 8) := HY.out.set ⟨S + 1 + 1 + 1 + 1, m, none⟩ _ (by show S + 1 + 1 + 1 + 1 ≠ S + 1 + 1 + 1; omega)
      have HW2 : Hid (Below S w (wr.setCell ⟨S + 1 + 1 + 1 + 1, m, none⟩ (.int .u64 (s : Int))).drew) := (HW.out.setCell (p := ⟨S + 1 + 1 + 1 + 1, m, none⟩) (by show S ≤ S + 1 + 1 + 1 + 1; omega) _).drew
      clear KF HF HA HB HX HY HW ca cb cf1 cf2
      generalize (wr.setCell ⟨S + 1 + 1 + 1 + 1, m, none⟩ (.int .u64 (s : Int))).drew = wc at *
      go_wp2_with fail
      go_roundg (8 - j)
      case measure => have := HJ.out; omega
      case rel =>
       refine ⟨j + 1, c2, updF g m s, rfl, by go_num, by show _ ∧ _; have := HJ.out; omega, HC2.out.symm, HA2, HB2, HX2, HY2, HF2, ⟨fun t ht => ?_, fun t ht => ?_, fun t ht ht2 => ?_⟩, HW2⟩
       ·rw [updF_other (by have := HMM.out; omega)]; exact HE.out.1 t ht
       ·by_cases e : t = j
        ·rw [e, HMM.out, updF_same]; exact HS.out.symm
        ·rw [updF_other (by have := HMM.out; omega)]; exact HE.out.2.1 t (by omega)
       ·rw [updF_other (by have := HMM.out; omega)]; exact HE.out.2.2 t (by omega) ht2
    ·obtain rfl : j = 8 := by have := HJ.out; omega
     obtain ⟨m, hm⟩ : ∃ m, i + 8 = m := ⟨_, rfl⟩
     have HMM := Lib.hid hm
     have hmz : (i : Int) + 8 = (m : Int) := by omega
     have hm16 : m < 16 := by omega
     have hmz16 : (m : Int) < 16 := by omega
     have hmw : IntKind.i64.wrap (m : Int) = (m : Int) := by rw [IntKind.wrap_i64]; omega
     have cf := HF.out m hm16
     rw [Nat.zero_add] at cf
     obtain ⟨cf1, cf2⟩ := cf
     clear hm
     have KF := HF.out.upd hm16 c
     rw [Nat.zero_add] at KF
     have HE3 : Hid (∀ t, t < 16 → updF g m c t = wd (rowQ a b (i + 1)) t) := by
      have := row_done hb.out HE.out.1 HE.out.2.1 HE.out.2.2
      rw [HMM.out, ← HC.out] at this
      exact this
     have HF2 : Hid (WordsF (wr.setCell ⟨S + 1 + 1 + 1 + 1, m, none⟩ (.int .u64 (c : Int))) (S + 1 + 1 + 1 + 1) 0 (updF g m c) 16) := KF
     have HA2 : Hid (WordsAt (wr.setCell ⟨S + 1 + 1 + 1 + 1, m, none⟩ (.int .u64 (c : Int))) S 0 a 8) := HA.out.set ⟨S + 1 + 1 + 1 + 1, m, none⟩ _ (by show S + 1 + 1 + 1 + 1 ≠ S; omega)
     have HB2 : Hid (WordsAt (wr.setCell ⟨S + 1 + 1 + 1 + 1, m, none⟩ (.int .u64 (c : Int))) (S + 1) 0 b 8) := HB.out.set ⟨S + 1 + 1 + 1 + 1, m, none⟩ _ (by show S + 1 + 1 + 1 + 1 ≠ S + 1; omega)
     have HX2 : Hid (WordsAt (wr.setCell ⟨S + 1 + 1 + 1 + 1, m, none⟩ (.int .u64 (c : Int))) (S + 1 + 1) 0 0 8) := HX.out.set ⟨S + 1 + 1 + 1 + 1, m, none⟩ _ (by show S + 1 + 1 + 1 + 1 ≠ S + 1 + 1; omega)
     have HY2 : Hid (WordsAt (wr.setCell ⟨S + 1 + 1 + 1 + 1, m, none⟩ (.int .u64 (c : Int))) (S + 1 + 1 + 1) 0 0 8) := HY.out.set ⟨S + 1 + 1 + 1 + 1, m, none⟩ _ (by show S + 1 + 1 + 1 + 1 ≠ S + 1 + 1 + 1; omega)
     have HW2 : Hid (Below S w (wr.setCell ⟨S + 1 + 1 + 1 + 1, m, none⟩ (.int .u64 (c : Int)))) := HW.out.setCell (p := ⟨S + 1 + 1 + 1 + 1, m, none⟩) (by show S ≤ S + 1 + 1 + 1 + 1; omega) _
     clear KF HF HA HB HX HY HW
     go_wp2_with fail
     go_roundg (L - i)
     case measure => have := HI.out; omega
     case rel => exact ⟨i + 1, updF g m c, by go_num, by show _ ∧ _; have := HI.out; omega, HA2, HB2, HX2, HY2, HF2, HE3, HW2⟩
  ·obtain rfl : i = L := by have := HI.out; omega
   have HQ : Hid (rowQ a b i = a * b) := rowQ_end (by have := lt_nlen (B := 18446744073709551616) (by decide) a; rw [← HL.out]; exact this)
   have HE2 := HE.out
   rw [HQ.out] at HE2
   have KP := HF.out.ext HE2
   obtain ⟨wp, hc1, X2, N1⟩ := copy_words wr.drew (S + 1 + 1) 0 (S + 1 + 1 + 1 + 1) 0 8 16 8 16 _ _ HX.out KP 8 rfl
   obtain ⟨q, hq⟩ : ∃ q, a * b / 18446744073709551616 ^ 8 = q := ⟨_, rfl⟩
   obtain ⟨wq, hc2, Y2, N2⟩ := copy_words wp.drew (S + 1 + 1 + 1) 0 (S + 1 + 1 + 1 + 1) 8 8 8 8 8 _ _ (HY.out.but N1.of_drew.drew (by omega)) ((KP.but N1.of_drew.drew (by omega)).sub 8 8 (by decide)) 8 rfl
   have X3 := (X2.but N2.of_drew (by omega)).ext (g := wd (a * b)) (fun t ht => by simp only [if_pos ht])
   have Y3 := Y2.ext (g := wd q) (fun t ht => by simp only [if_pos ht]; rw [← hq]; show dig _ _ _ = dig _ _ _; rw [dig_div, Nat.add_comm])
   have BW : Hid (Below S w wq) := N2.of_drew.2.1 S w (by omega) (N1.of_drew.2.1 S w (by omega) HW.out)
   obtain ⟨⟨x0, y0⟩, ⟨x1, y1⟩, ⟨x2, y2⟩, ⟨x3, y3⟩, ⟨x4, y4⟩, ⟨x5, y5⟩, ⟨x6, y6⟩, ⟨x7, y7⟩⟩ := X3.eight
   obtain ⟨⟨u0, v0⟩, ⟨u1, v1⟩, ⟨u2, v2⟩, ⟨u3, v3⟩, ⟨u4, v4⟩, ⟨u5, v5⟩, ⟨u6, v6⟩, ⟨u7, v7⟩⟩ := Y3.eight
   have hpost : ∀ e w', (e = Ending.returned (.tuple #[wordsV (a * b), wordsV q]) ∧ Below S w w') → (e = Ending.returned (.tuple #[wordsV (a * b), wordsV (a * b / 18446744073709551616 ^ 8)]) ∧ Below w.heap.size w w') := fun e w' h => by rw [hq, hS]; exact h
   have HPO := Lib.hid hpost
   clear KP HE2 HE HF HA HB HX HY X2 Y2 X3 Y3 N1 N2 HW hpost hq
   go_wp2_with fail
   go_region
   go_wp2_with fail
   go_region
   go_wp2_with fail
   refine bodyPost_ret (v := .tuple #[wordsV (a * b), wordsV q]) (by rw [results_cell2 rfl]; go_simp; exact ⟨rfl, rfl⟩) rfl ?_
   exact HPO.out _ _ ⟨rfl, below_set8 (b := S + 1 + 1 + 1) (below_set8 (b := S + 1 + 1) BW.out (by omega) _ _ _ _ _ _ _ _) (by omega) _ _ _ _ _ _ _ _⟩
end Go.Proofs.YtgoemhcngmpfbaaGreatDoor
namespace Go.Proofs.YtgoemhcngmpfbaaGreatDoor
open Go.RowKit Go.Sort
theorem wd_mul_pow {m q t : Nat} : wd (m * 18446744073709551616 ^ q) t = if q ≤ t then wd m (t - q) else 0 := by
 unfold wd
 by_cases h : q ≤ t
 ·rw [if_pos h]
  obtain ⟨u, rfl⟩ : ∃ u, t = u + q := ⟨t - q, by omega⟩
  rw [← dig_div, Nat.mul_div_cancel _ (Nat.pow_pos (by decide)), Nat.add_sub_cancel]
 ·rw [if_neg h, ← dig_mod (j := q) (Nat.lt_of_not_le h), Nat.mul_mod_left, dig_zero]
theorem pow_split {s t : Nat} (h : s + t = 64) : (2 : Nat) ^ (s + t) = 18446744073709551616 := by rw [h]
theorem wd_shl {m i s : Nat} (hs : s < 64) : wd (m * 2 ^ s) (i + 1) = (wd m (i + 1) * 2 ^ s % 18446744073709551616) ||| (wd m i / 2 ^ (64 - s)) := by
 have := dig_shl (m := m) (i := i) (s := s) (t := 64 - s)
 rwa [pow_split (by omega)] at this
theorem wd_shl0 {m s : Nat} (hs : s < 64) : wd (m * 2 ^ s) 0 = wd m 0 * 2 ^ s % 18446744073709551616 := by
 have := dig_shl0 (m := m) (s := s) (t := 64 - s)
 rwa [pow_split (by omega)] at this
theorem wd_shr {m i s : Nat} (hs : s < 64) : wd (m / 2 ^ s) i = (wd m i / 2 ^ s) ||| (wd m (i + 1) * 2 ^ (64 - s) % 18446744073709551616) := by
 have := dig_shr (m := m) (i := i) (s := s) (t := 64 - s)
 rwa [pow_split (by omega)] at this
theorem wrap_shl (x s : Nat) : IntKind.u64.wrap ((x : Int) * 2 ^ s) = ((x * 2 ^ s % 18446744073709551616 : Nat) : Int) := by
 have e : (x : Int) * 2 ^ s = ((x * 2 ^ s : Nat) : Int) := by rw [Int.natCast_mul, Int.natCast_pow]; rfl
 rw [e, IntKind.wrap_u64]
 generalize x * 2 ^ s = y
 omega
theorem div_pow (y t : Nat) : (y : Int) / 2 ^ t = ((y / 2 ^ t : Nat) : Int) := by
 rw [Int.natCast_ediv, Int.natCast_pow]
 rfl
theorem or_words {x y s t : Nat} (hy : y < 18446744073709551616) : bits .or .u64 (IntKind.u64.wrap ((x : Int) * 2 ^ s)) ((y : Int) / 2 ^ t) = (((x * 2 ^ s % 18446744073709551616) ||| (y / 2 ^ t) : Nat) : Int) := by
 rw [wrap_shl, div_pow]
 exact bits_or_u64_nat _ _ (Nat.mod_lt _ (by decide)) (Nat.lt_of_le_of_lt (Nat.div_le_self _ _) hy)
theorem or_words' {x y s t : Nat} (hy : y < 18446744073709551616) : bits .or .u64 ((y : Int) / 2 ^ t) (IntKind.u64.wrap ((x : Int) * 2 ^ s)) = (((y / 2 ^ t) ||| (x * 2 ^ s % 18446744073709551616) : Nat) : Int) := by
 rw [wrap_shl, div_pow]
 exact bits_or_u64_nat _ _ (Nat.lt_of_le_of_lt (Nat.div_le_self _ _) hy) (Nat.mod_lt _ (by decide))
theorem box_zero (w : World) (a : Nat) (T U : TypeId) : WordsAt ((w.alloc (boxO a T)).alloc (boxZ U)) w.heap.size 0 a 8 ∧ WordsAt ((w.alloc (boxO a T)).alloc (boxZ U)) (w.heap.size + 1) 0 0 8 ∧ Below w.heap.size w ((w.alloc (boxO a T)).alloc (boxZ U)) := by
 refine ⟨(WordsAt.new w a T).alloc (by simp) _, ?_, (below_alloc w _).alloc (by simp) _⟩
 have := WordsAt.zero (w.alloc (boxO a T)) U
 simpa using this
set_option maxRecDepth 100000 in
set_option maxHeartbeats 8000000 in
theorem shiftLeft_run (a n : Nat) (w : World) (hn : n < 512) :
  Calls Tryz.prog 121 #[wordsV a, .int .i64 (n : Int)] w fun e w' => e = .returned (wordsV (a * 2 ^ n)) ∧ Below w.heap.size w w' := by
 obtain ⟨q, hq⟩ : ∃ q, n / 64 = q := ⟨_, rfl⟩
 obtain ⟨s, hs⟩ : ∃ s, n % 64 = s := ⟨_, rfl⟩
 have hq8 : q < 8 := by omega
 have hs64 : s < 64 := by omega
 have hne : ¬ 8 = q := by omega
 have hqz : (n : Int) / 64 = (q : Int) := by omega
 have hsz : (n : Int) % 64 = (s : Int) := by omega
 have hq8z : (q : Int) ≤ 8 := by omega
 have HV : Hid (a * 18446744073709551616 ^ q * 2 ^ s = a * 2 ^ n) := by
  have e1 : (18446744073709551616 : Nat) = 2 ^ 64 := rfl
  show _ = _
  rw [e1, ← Nat.pow_mul, Nat.mul_assoc, ← Nat.pow_add, show 64 * q + s = n by omega]
 obtain ⟨W, hW⟩ : ∃ W, (w.alloc (boxO a 119)).alloc (boxZ 119) = W := ⟨_, rfl⟩
 obtain ⟨h1, h2, h3⟩ := box_zero w a 119 119
 rw [hW] at h1 h2 h3
 obtain ⟨wc, hcp, C2, N2⟩ := copy_into W.drew (w.heap.size + 1) 0 q w.heap.size 0 8 (8 - q) 8 (8 - q) 8 (wd 0) (wd a) h2 (by omega) h1 (8 - q) (by show min 8 (8 - q) = 8 - q; omega)
 rw [Nat.zero_add, ← hW] at hcp
 have HC : Hid (WordsAt wc (w.heap.size + 1) 0 (a * 18446744073709551616 ^ q) 8) := C2.ext fun t ht => by
  simp only [wd_mul_pow, wd_zero]
  by_cases h : q ≤ t
  ·rw [if_pos ⟨h, by omega⟩, if_pos h]
  ·rw [if_neg (fun h' => h h'.1), if_neg h]
 have HW : Hid (Below w.heap.size w wc) := N2.of_drew.2.1 _ _ (by omega) h3
 clear hW h1 h2 h3 C2 N2
 unfold wordsV
 go_enter Tryz.func121, Tryz.ntmps121
 go_wp2_with fail
 go_region
 clear hcp
 go_wp2_with fail
 obtain ⟨M, hM⟩ : ∃ M, a * 18446744073709551616 ^ q = M := ⟨_, rfl⟩
 rw [hM] at HC HV
 clear hM
 go_loopg [5] 10 (fun h s5 wr => ∃ (i : Nat) (f : Nat → Nat), s5 = .int .i64 (i : Int) ∧ Hid (i ≤ 7 ∧ i < h) ∧ Hid (WordsF wr (w.heap.size + 1) 0 f 8) ∧ Hid ((∀ t, t ≤ i → f t = wd M t) ∧ (∀ t, i < t → t < 8 → f t = wd (M * 2 ^ s) t)) ∧ Hid (Below w.heap.size w wr))
 case atStart => exact ⟨7, wd M, rfl, by show _ ∧ _; omega, HC, ⟨fun t _ => rfl, fun t h1 h2 => absurd h1 (by omega)⟩, HW⟩
 case round =>
  clear HC HW
  obtain ⟨i, f, rfl, HI, HF, HE, HW⟩ := hrel
  cases i with
  | zero =>
   have HE0 := HE.out.1 0 (by decide)
   obtain ⟨x, hx⟩ : ∃ x, f 0 = x := ⟨_, rfl⟩
   obtain ⟨v, hv0⟩ : ∃ v, x * 2 ^ s % 18446744073709551616 = v := ⟨_, rfl⟩
   have hv : IntKind.u64.wrap ((x : Int) * 2 ^ s) = (v : Int) := by rw [wrap_shl, hv0]
   have hvm : v = wd (M * 2 ^ s) 0 := by rw [wd_shl0 hs64, ← HE0, hx]; exact hv0.symm
   have KF : WordsAt (wr.setCell ⟨w.heap.size + 1, 0, none⟩ (.int .u64 (v : Int))) (w.heap.size + 1) 0 (a * 2 ^ n) 8 := by
    have := HF.out.upd (i := 0) (by decide) v
    rw [Nat.zero_add] at this
    refine this.ext fun t ht => ?_
    rw [← HV.out]
    by_cases e : t = 0
    ·rw [e, updF_same, hvm]
    ·rw [updF_other e]; exact HE.out.2 t (by omega) ht
   have HW2 : Hid (Below w.heap.size w (wr.setCell ⟨w.heap.size + 1, 0, none⟩ (.int .u64 (v : Int)))) := HW.out.setCell (p := ⟨w.heap.size + 1, 0, none⟩) (by show w.heap.size ≤ w.heap.size + 1; omega) _
   have cf := HF.out 0 (by decide)
   rw [Nat.zero_add, hx] at cf
   obtain ⟨cf1, cf2⟩ := cf
   clear hv0 hvm hx HE0 HF HE HW
   go_upto_region 8 with fail
   clear cf1 cf2 hv
   obtain ⟨⟨c0, d0⟩, ⟨c1, d1⟩, ⟨c2, d2⟩, ⟨c3, d3⟩, ⟨c4, d4⟩, ⟨c5, d5⟩, ⟨c6, d6⟩, ⟨c7, d7⟩⟩ := KF.eight
   generalize wr.setCell ⟨w.heap.size + 1, 0, none⟩ (.int .u64 (v : Int)) = wx at *
   clear KF
   go_wp2_with fail
   refine bodyPost_ret (v := wordsV (a * 2 ^ n)) (by rw [results_cell1 rfl]; go_simp; try rfl) rfl ⟨rfl, ?_⟩
   exact below_set8 (b := w.heap.size + 1) HW2.out (by omega) _ _ _ _ _ _ _ _
  | succ i =>
   have hi7 : i < 7 := by have := HI.out; omega
   have hp2 : (0 : Int) < ((i + 1 : Nat) : Int) := by omega
   have hw1 : IntKind.i64.wrap (((i + 1 : Nat) : Int) - 1) = (i : Int) := by rw [IntKind.wrap_i64]; omega
   have hi8z : ((i + 1 : Nat) : Int) < 8 := by omega
   have hi8y : (i : Int) < 8 := by omega
   obtain ⟨x, hx⟩ : ∃ x, f (i + 1) = x := ⟨_, rfl⟩
   obtain ⟨y, hy⟩ : ∃ y, f i = y := ⟨_, rfl⟩
   have cf := HF.out (i + 1) (by omega)
   have cg := HF.out i (by omega)
   rw [Nat.zero_add] at cf cg
   rw [hx] at cf
   rw [hy] at cg
   obtain ⟨cf1, cf2⟩ := cf
   obtain ⟨cg1, cg2⟩ := cg
   have HE1 := HE.out.1 (i + 1) (Nat.le_refl _)
   have HE2 := HE.out.1 i (by omega)
   have hyl : y < 18446744073709551616 := by rw [← hy, HE2]; exact wd_lt _ _
   obtain ⟨v, hv0⟩ : ∃ v, (x * 2 ^ s % 18446744073709551616) ||| (y / 2 ^ (64 - s)) = v := ⟨_, rfl⟩
   have hv : bits .or .u64 (IntKind.u64.wrap ((x : Int) * 2 ^ s)) ((y : Int) / 2 ^ (64 - s)) = (v : Int) := by rw [or_words hyl, hv0]
   have HVM : Hid (v = wd (M * 2 ^ s) (i + 1)) := by show _ = _; rw [wd_shl hs64, ← HE1, ← HE2, hx, hy]; exact hv0.symm
   clear hv0 hx hy HE1 HE2 hyl
   go_wp2_with fail
   go_region
   have HF2 : Hid (WordsF (wr.setCell ⟨w.heap.size + 1, i + 1, none⟩ (.int .u64 (v : Int))).drew (w.heap.size + 1) 0 (updF f (i + 1) v) 8) := by
    have := HF.out.upd (i := i + 1) (by omega) v
    rwa [Nat.zero_add] at this
   have HW2 : Hid (Below w.heap.size w (wr.setCell ⟨w.heap.size + 1, i + 1, none⟩ (.int .u64 (v : Int))).drew) := (HW.out.setCell (p := ⟨w.heap.size + 1, i + 1, none⟩) (by show w.heap.size ≤ w.heap.size + 1; omega) _).drew
   clear cf1 cf2 cg1 cg2 HF HW hv
   generalize (wr.setCell ⟨w.heap.size + 1, i + 1, none⟩ (.int .u64 (v : Int))).drew = wx at *
   go_wp2_with fail
   go_roundg (i + 1)
   case measure => have := HI.out; omega
   case rel =>
    refine ⟨i, updF f (i + 1) v, by go_num, by show _ ∧ _; have := HI.out; omega, HF2, ⟨fun t ht => ?_, fun t ht ht2 => ?_⟩, HW2⟩
    ·rw [updF_other (by omega)]; exact HE.out.1 t (by omega)
    ·by_cases e : t = i + 1
     ·rw [e, updF_same]; exact HVM.out
     ·rw [updF_other e]; exact HE.out.2 t (by omega) ht2
end Go.Proofs.YtgoemhcngmpfbaaGreatDoor
