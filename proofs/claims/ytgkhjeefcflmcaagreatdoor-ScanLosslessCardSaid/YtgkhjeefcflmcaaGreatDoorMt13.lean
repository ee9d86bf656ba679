/-
  Stage 8: ratio's Make at a divisor that is not 0.
-/
import Derived.Test.YtgkhjeefcflmcaaGreatDoorMt11
import Derived.Test.YtgkhjeefcflmcaaGreatDoorMt12
import Derived.Test.YtgkhjeefcflmcaaGreatDoorMt08
namespace Go.Proofs.YtgkhjeefcflmcaaGreatDoor
open Go.RowKit Go.Sort
set_option linter.unusedSimpArgs false
set_option maxRecDepth 100000 in
set_option maxHeartbeats 8000000 in
theorem Make_pos (s : Bool) (n : Nat) (t : Bool) (m : Nat) (w : World) (hn : Hid (Fits n)) (hm : Hid (Fits m)) (hm0 : 0 < m) :
  Calls Tryz.prog 219 #[intV s n, intV t m] w fun e w' => e = .returned (makeV s n t m) ∧ Below w.heap.size w w' := by
 have hg0 : 0 < Nat.gcd n m := Nat.gcd_pos_of_pos_right _ hm0
 have hgm : Nat.gcd n m ≤ m := Nat.gcd_le_right n hm0
 have HV : Hid (makeV s n t m = .tuple #[ratV (sgn (s != t) (n / Nat.gcd n m)) (n / Nat.gcd n m) false (m / Nat.gcd n m), .nilIface]) := if_neg (by omega)
 rw [HV.out]
 have HG := Lib.hid (fun W => Gcd_run s n t m W hn hm)
 obtain ⟨g, hg⟩ : ∃ g, Nat.gcd n m = g := ⟨_, rfl⟩
 rw [hg] at hg0 hgm HG ⊢
 have hgf : Fits g := Nat.lt_of_le_of_lt hgm hm.out
 have HQ1 := fun W => quotient_run s n t g W hn hgf hg0
 have HQ2 := fun W => quotient_run t m t g W hm hgf hg0
 have hz2 : sgn (t != t) (m / g) = false := by cases t <;> rfl
 rw [hz2] at HQ2
 obtain ⟨q1, hq1⟩ : ∃ q, n / g = q := ⟨_, rfl⟩
 obtain ⟨q2, hq2⟩ : ∃ q, m / g = q := ⟨_, rfl⟩
 obtain ⟨z1, hz1⟩ : ∃ z, sgn (s != t) q1 = z := ⟨_, rfl⟩
 rw [hq1, hz1] at HQ1
 rw [hq2] at HQ2
 rw [hq1, hq2, hz1]
 have hc := show sgZ t m = if t then -1 else 1 by rw [sgZ, if_neg (by omega)]
 have HS := Lib.hid (fun W => sign_run t m _ W hm (Lib.hid hc))
 have HN := Lib.hid (fun W => Neg_run false g W hgf)
 have hng : sgn (!false) g = true := by rw [sgn, decide_eq_false (by omega)]; rfl
 rw [hng] at HN
 obtain ⟨S, hS⟩ : ∃ S, w.heap.size = S := ⟨_, rfl⟩
 obtain ⟨W, hW⟩ : ∃ W, ((w.alloc (boxI s n 92)).alloc (boxI t m 92)).alloc (boxRZ 94) = W := ⟨_, rfl⟩
 have T := make_boxes w s n t m 92 92 94
 rw [hW, hS] at T
 have HT := Lib.hid T
 obtain ⟨⟨a0, x0⟩, ⟨a1, x1⟩, ⟨a2, x2⟩, ⟨a3, x3⟩, ⟨a4, x4⟩, ⟨a5, x5⟩, ⟨a6, x6⟩, ⟨a7, x7⟩, ⟨a8, x8⟩⟩ := T.1.nine
 obtain ⟨⟨b0, y0⟩, ⟨b1, y1⟩, ⟨b2, y2⟩, ⟨b3, y3⟩, ⟨b4, y4⟩, ⟨b5, y5⟩, ⟨b6, y6⟩, ⟨b7, y7⟩, ⟨b8, y8⟩⟩ := T.2.1.nine
 rw [hS]
 have hWs : W.heap.size = S + 1 + 1 + 1 := T.2.2.2.2
 clear T HV hg0 hgm hg hgf hz2 hq1 hq2 hz1 hc hng hn hm hm0
 have HH1 := Lib.hid (fun W (E : Nat) (h : Hid (ErrAt W E 0)) => do_first 239 E 0 s n t g z1 q1 W h (Lib.hid enters_quotient) (Lib.hid HQ1))
 have HH2 := Lib.hid (fun W (E : Nat) (h : Hid (ErrAt W E 0)) => do_first 239 E 0 t m t g false q2 W h (Lib.hid enters_quotient) (Lib.hid HQ2))
 clear HQ1 HQ2
 have HWs := Lib.hid hWs
 clear hWs
 have enters_do : EntersP Tryz.prog 192 := entersP_of Tryz.func192 (by kernel_rfl) rfl
 unfold intV at HG HS HN ⊢
 cases t with
 | false =>
  go_enter Tryz.func219, Tryz.ntmps219
  go_wp2_with fail
  refine (HS.out _).mono ?_
  rintro e w1 ⟨rfl, hw1⟩
  have I1 := HT.out.1.keep hw1 (by rw [HWs.out]; omega)
  have I2 := HT.out.2.1.keep hw1 (by rw [HWs.out]; omega)
  have I3 := HT.out.2.2.1.keep hw1 (by rw [HWs.out]; omega)
  have B1 : Below S w w1 := HT.out.2.2.2.1.trans (hw1.mono (by rw [HWs.out]; omega))
  have z1w : S + 1 + 1 + 1 ≤ w1.heap.size := Nat.le_trans (Nat.le_of_eq HWs.out.symm) hw1.size
  have HI := Lib.hid (And.intro I1 (And.intro I2 (And.intro I3 B1)))
  clear hw1 HT hW a0 a1 a2 a3 a4 a5 a6 a7 a8 x0 x1 x2 x3 x4 x5 x6 x7 x8 b0 b1 b2 b3 b4 b5 b6 b7 b8 y0 y1 y2 y3 y4 y5 y6 y7 y8
  obtain ⟨⟨a0, x0⟩, ⟨a1, x1⟩, ⟨a2, x2⟩, ⟨a3, x3⟩, ⟨a4, x4⟩, ⟨a5, x5⟩, ⟨a6, x6⟩, ⟨a7, x7⟩, ⟨a8, x8⟩⟩ := I1.nine
  obtain ⟨⟨b0, y0⟩, ⟨b1, y1⟩, ⟨b2, y2⟩, ⟨b3, y3⟩, ⟨b4, y4⟩, ⟨b5, y5⟩, ⟨b6, y6⟩, ⟨b7, y7⟩, ⟨b8, y8⟩⟩ := I2.nine
  clear x0 x1 x2 x3 x4 x5 x6 x7 x8 y0 y1 y2 y3 y4 y5 y6 y7 y8 I1 I2 I3 B1
  go_wp2_with fail
  refine (HG.out _).mono ?_
  rintro e w2 ⟨rfl, hw2⟩
  have J1 := (HI.out.1.keep hw2 (by omega)).alloc (by have := hw2.size; omega) (boxI false g 92)
  have J2 := (HI.out.2.1.keep hw2 (by omega)).alloc (by have := hw2.size; omega) (boxI false g 92)
  have J3 := (HI.out.2.2.1.keep hw2 (by omega)).alloc (by have := hw2.size; omega) (boxI false g 92)
  have B2 : Below S w (w2.alloc (boxI false g 92)) := (HI.out.2.2.2.trans (hw2.mono (by omega))).alloc (by have := hw2.size; omega) _
  have J4 := IntAt.new w2 false g 92
  have z2w : S + 1 + 1 + 1 ≤ w2.heap.size := Nat.le_trans z1w hw2.size
  have hs2 : (w2.alloc (boxI false g 92)).heap.size = w2.heap.size + 1 := by simp
  obtain ⟨R, hR⟩ : ∃ R, w2.heap.size = R := ⟨_, rfl⟩
  rw [hR] at J4 z2w hs2
  obtain ⟨wx, hwx⟩ : ∃ wx, w2.alloc (boxI false g 92) = wx := ⟨_, rfl⟩
  rw [hwx] at J1 J2 J3 J4 B2 hs2
  clear hw2 HI a0 a1 a2 a3 a4 a5 a6 a7 a8 b0 b1 b2 b3 b4 b5 b6 b7 b8
  obtain ⟨⟨b0, y0⟩, ⟨b1, y1⟩, ⟨b2, y2⟩, ⟨b3, y3⟩, ⟨b4, y4⟩, ⟨b5, y5⟩, ⟨b6, y6⟩, ⟨b7, y7⟩, ⟨b8, y8⟩⟩ := J2.nine
  have HJ := Lib.hid (And.intro J1 (And.intro J2 (And.intro J3 (And.intro J4 B2))))
  have HR := Lib.hid hs2
  clear y0 y1 y2 y3 y4 y5 y6 y7 y8 J1 J2 J3 J4 B2 hs2 z1w
  go_wp2_with fail
  refine (HS.out _).mono ?_
  rintro e w4 ⟨rfl, hw4⟩
  have K1 := HJ.out.1.keep hw4 (by rw [HR.out]; omega)
  have K2 := HJ.out.2.1.keep hw4 (by rw [HR.out]; omega)
  have K3 := HJ.out.2.2.1.keep hw4 (by rw [HR.out]; omega)
  have K4 := HJ.out.2.2.2.1.keep hw4 (by rw [HR.out]; omega)
  have B4 : Below S w w4 := HJ.out.2.2.2.2.trans (hw4.mono (by rw [HR.out]; omega))
  have z4w : R + 1 ≤ w4.heap.size := Nat.le_trans (Nat.le_of_eq HR.out.symm) hw4.size
  clear hw4 HJ hwx hR HR HS HG b0 b1 b2 b3 b4 b5 b6 b7 b8
  obtain ⟨E, hwE⟩ : ∃ E, w4.heap.size = E := ⟨_, rfl⟩
  rw [hwE] at z4w
  have Y1 := K1
  have Y2 := K2
  have Y3 := K4
  have Y4 := K3
  have YB := B4
  clear K1 K2 K3 K4 B4 HN
  have HSZ : Hid (w4.heap.size = E) := hwE
  have Z1 := Y1.alloc (by omega) (.cells #[.nilIface] 254)
  have Z2 := Y2.alloc (by omega) (.cells #[.nilIface] 254)
  have Z3 := Y3.alloc (by omega) (.cells #[.nilIface] 254)
  have Z4 := Y4.alloc (by omega) (.cells #[.nilIface] 254)
  have ZB : Below S w (w4.alloc (.cells #[.nilIface] 254)) := YB.alloc (by omega) _
  have ZE := ErrAt.new w4 254
  have hs0 : (w4.alloc (.cells #[.nilIface] 254)).heap.size = E + 1 := by simp [hwE]
  rw [hwE] at ZE
  obtain ⟨wz, hwz⟩ : ∃ wz, w4.alloc (.cells #[.nilIface] 254) = wz := ⟨_, rfl⟩
  rw [hwz] at Z1 Z2 Z3 Z4 ZB ZE hs0
  have HIw : Hid (MkInv w wz S R E s n false m false g) := ⟨Z1, Z2, Z3, Z4, ZB, ZE, Nat.le_of_eq hs0.symm, z2w, by omega⟩
  have HI0 := Lib.hid HIw.out.drew
  have Hs0 : Hid (wz.heap.size = E + 1) := hs0
  clear Z1 Z2 Z3 Z4 ZB ZE HSZ Y1 Y2 Y3 Y4 YB
  go_upto_region 7 with fail
  clear hwz hwE
  go_cut [8] (fun t8 wx => MkOut w wx S R E s n false m false g z1 q1 q2 t8)
  case first =>
   refine rg_begin (fun W' => MkInv w W' S R E s n false m false g) (by kernel_rfl) HI0.out (fun hS => ?_)
   refine rg_take 0 (intV s n) rfl (by kernel_rfl) (by kernel_rfl) (by kernel_rfl) (fun _ _ _ h => h) rfl (fun w hSw => ld_int (.tmp 2) rfl rfl hSw.i1.o) hS ?_
   simp only [zA, zB, zC, Act.put, zD, zE, zF]
   refine rg_take 1 (intV false g) rfl (by kernel_rfl) (by kernel_rfl) (by kernel_rfl) (fun _ _ _ h => h) rfl (fun w hSw => ld_int (.tmp 6) rfl rfl hSw.i3.o) hS ?_
   simp only [zA, zB, zC, Act.put, zD, zE, zF]
   refine rg_take 3 (intV false m) rfl (by kernel_rfl) (by kernel_rfl) (by kernel_rfl) (fun _ _ _ h => h) rfl (fun w hSw => ld_int (.tmp 3) rfl rfl hSw.i2.o) hS ?_
   simp only [zA, zB, zC, Act.put, zD, zE, zF]
   refine rg_take 4 (intV false g) rfl (by kernel_rfl) (by kernel_rfl) (by kernel_rfl) (fun _ _ _ h => h) rfl (fun w hSw => ld_int (.tmp 6) rfl rfl hSw.i3.o) hS ?_
   simp only [zA, zB, zC, Act.put, zD, zE, zF]
   refine rg_two 2 7 (by kernel_rfl) ?_ ?_
   ·refine rs_of rfl rfl (wp_call rfl enters_do rfl (HH1.out _ E (Lib.hid hS.er)) (fun w6 hw6 => ⟨hS.ste hw6, ?_⟩))
    have hS1 := hS.ste hw6
    clear hS hw6
    simp only [zA, zB, zC, Act.put, zD, zE, zF]
    refine rg_two 5 7 (by kernel_rfl) ?_ ?_
    ·refine rs_of rfl rfl (wp_call rfl enters_do rfl (HH2.out _ E (Lib.hid hS1.er)) (fun w7 hw7 => ⟨hS1.ste hw7, ?_⟩))
     have hS := hS1.ste hw7
     clear hS1 hw7
     simp only [zA, zB, zC, Act.put, zD, zE, zF]
     refine rg_take 6 (ratV z1 q1 false q2) rfl (by kernel_rfl) (by kernel_rfl) (by kernel_rfl) (fun _ _ _ h => h) rfl (fun w hSw => build_rat rfl rfl rfl) hS ?_
     simp only [zA, zB, zC, Act.put, zD, zE, zF]
     refine rg_one 7 (by kernel_rfl) (rs_of rfl rfl (wp_value (alloc_rat rfl) ⟨hS.alloc _, ?_⟩))
     have hZ := RatAt.zero w7 94
     have hL : E < w7.heap.size := hS.sz
     have hS1 := hS.alloc (boxRZ 94)
     clear hS
     simp only [zA, zB, zC, Act.put, zD, zE, zF]
     refine rg_one 8 (by kernel_rfl) (rs_of rfl rfl (stores_rat (.tmp 8) (.tmp 28) rfl rfl rfl hZ ⟨hS1.but (st18_but _ _ z1 q1 false q2) hL, ?_⟩))
     refine wpAnyH_done (by kernel_rfl) ?_ _
     simp only [zA, zB, zC, Act.put, zD, zE, zF]
     go_wp2_with fail
     go_meet
     exact ⟨_, rfl, hL, st18_at hZ, hS1.but (st18_but _ _ z1 q1 false q2) hL⟩
    ·refine rs_of rfl rfl (wp_value (alloc_rat rfl) ⟨hS1.alloc _, ?_⟩)
     have hZ := RatAt.zero w6 94
     have hL : E < w6.heap.size := hS1.sz
     have hS := hS1.alloc (boxRZ 94)
     have hl : w6.heap.size < (w6.alloc (boxRZ 94)).heap.size := by simp
     clear hS1
     simp only [zA, zB, zC, Act.put, zD, zE, zF]
     generalize w6.alloc (boxRZ 94) = w6' at *
     generalize w6.heap.size = L at *
     refine rg_one 5 (by kernel_rfl) (rs_of rfl rfl (wp_call rfl enters_do rfl (HH2.out _ E (Lib.hid hS.er)) (fun w7 hw7 => ⟨hS.ste hw7, ?_⟩)))
     have hS1 := hS.ste hw7
     have hZ1 := hZ.ste hw7 hl (by omega)
     clear hS hZ hl hw7
     simp only [zA, zB, zC, Act.put, zD, zE, zF]
     refine rg_take 6 (ratV z1 q1 false q2) rfl (by kernel_rfl) (by kernel_rfl) (by kernel_rfl) (fun _ _ _ h => h) rfl (fun w hSw => build_rat rfl rfl rfl) hS1 ?_
     simp only [zA, zB, zC, Act.put, zD, zE, zF]
     refine rg_one 8 (by kernel_rfl) (rs_of rfl rfl (stores_rat (.tmp 8) (.tmp 28) rfl rfl rfl hZ1 ⟨hS1.but (st18_but _ _ z1 q1 false q2) hL, ?_⟩))
     refine wpAnyH_done (by kernel_rfl) ?_ _
     simp only [zA, zB, zC, Act.put, zD, zE, zF]
     go_wp2_with fail
     go_meet
     exact ⟨_, rfl, hL, st18_at hZ1, hS1.but (st18_but _ _ z1 q1 false q2) hL⟩
   ·refine rs_of rfl rfl (wp_value (alloc_rat rfl) ⟨hS.alloc _, ?_⟩)
    have hZ := RatAt.zero wz.drew 94
    have hL : E < wz.drew.heap.size := hS.sz
    have hS1 := hS.alloc (boxRZ 94)
    have hl : wz.drew.heap.size < (wz.drew.alloc (boxRZ 94)).heap.size := by simp
    clear hS
    simp only [zA, zB, zC, Act.put, zD, zE, zF]
    generalize wz.drew.alloc (boxRZ 94) = wz' at *
    generalize wz.drew.heap.size = L at *
    refine rg_one 2 (by kernel_rfl) (rs_of rfl rfl (wp_call rfl enters_do rfl (HH1.out _ E (Lib.hid hS1.er)) (fun w6 hw6 => ⟨hS1.ste hw6, ?_⟩)))
    have hS := hS1.ste hw6
    have hZ1 := hZ.ste hw6 hl (by omega)
    have hl1 := Nat.lt_of_lt_of_le hl hw6.size
    clear hS1 hZ hl hw6
    simp only [zA, zB, zC, Act.put, zD, zE, zF]
    refine rg_one 5 (by kernel_rfl) (rs_of rfl rfl (wp_call rfl enters_do rfl (HH2.out _ E (Lib.hid hS.er)) (fun w7 hw7 => ⟨hS.ste hw7, ?_⟩)))
    have hS1 := hS.ste hw7
    have hZ2 := hZ1.ste hw7 hl1 (by omega)
    clear hS hZ1 hl1 hw7
    simp only [zA, zB, zC, Act.put, zD, zE, zF]
    refine rg_take 6 (ratV z1 q1 false q2) rfl (by kernel_rfl) (by kernel_rfl) (by kernel_rfl) (fun _ _ _ h => h) rfl (fun w hSw => build_rat rfl rfl rfl) hS1 ?_
    simp only [zA, zB, zC, Act.put, zD, zE, zF]
    refine rg_one 8 (by kernel_rfl) (rs_of rfl rfl (stores_rat (.tmp 8) (.tmp 28) rfl rfl rfl hZ2 ⟨hS1.but (st18_but _ _ z1 q1 false q2) hL, ?_⟩))
    refine wpAnyH_done (by kernel_rfl) ?_ _
    simp only [zA, zB, zC, Act.put, zD, zE, zF]
    go_wp2_with fail
    go_meet
    exact ⟨_, rfl, hL, st18_at hZ2, hS1.but (st18_but _ _ z1 q1 false q2) hL⟩
  case rest =>
   obtain ⟨L, rfl, hL, hR, hI⟩ := hcut
   have h1 := hI.r1
   have h2 := hI.r2
   have HI := Lib.hid hI
   clear hI
   go_upto_region 8 with fail
   refine rg_begin (fun W' => RatAt W' L z1 q1 false q2 ∧ ErrAt W' E 0) (by kernel_rfl) ⟨hR.drew, HI.out.er.drew⟩ (fun hS => ?_)
   refine rg_take 0 (ratV z1 q1 false q2) rfl (by kernel_rfl) (by kernel_rfl) (by kernel_rfl) (fun _ _ _ h => h) rfl (fun w hSw => ld_rat (.tmp 8) rfl rfl hSw.1) hS ?_
   simp only [zA, zB, zC, Act.put, zD, zE, zF]
   refine rg_take 1 (.pointer (some ⟨E, 0, none⟩)) rfl (by kernel_rfl) (by kernel_rfl) (by kernel_rfl) (fun _ _ _ h => h) rfl (fun w _ => ?_) hS ?_
   ·go_simp
   simp only [zA, zB, zC, Act.put, zD, zE, zF]
   refine rg_take 2 (.nilIface) rfl (by kernel_rfl) (by kernel_rfl) (by kernel_rfl) (fun _ _ _ h => h) rfl (fun w hSw => ?_) hS ?_
   ·have e0 : w.cell? ⟨E, 0, none⟩ = some .nilIface := hSw.2.cell
    go_simp
   simp only [zA, zB, zC, Act.put, zD, zE, zF]
   have hb := st18_but wc.drew (S + 1 + 1) z1 q1 false q2
   refine rg_one 3 (by kernel_rfl) (rs_of rfl rfl (stores_rat (.tmp 4) (.tmp 29) rfl rfl rfl HI.out.i4.drew ⟨⟨hS.1.but hb (by omega), ErrAt.but1 hS.2 hb (by omega)⟩, ?_⟩))
   have hS := (show RatAt _ L z1 q1 false q2 ∧ ErrAt _ E 0 from ⟨hS.1.but hb (by omega), ErrAt.but1 hS.2 hb (by omega)⟩)
   simp only [zA, zB, zC, Act.put, zD, zE, zF]
   refine rg_take 4 (.nilIface) rfl (by kernel_rfl) (by kernel_rfl) (by kernel_rfl) (fun _ _ _ h => h) rfl (fun w _ => ?_) hS ?_
   ·go_simp
   simp only [zA, zB, zC, Act.put, zD, zE, zF]
   refine wpAnyH_done (by kernel_rfl) ?_ _
   go_wp2_with fail
   refine bodyPost_ret (v := .tuple #[ratV z1 q1 false q2, .nilIface]) (results_rat rfl rfl rfl (st18_at HI.out.i4.drew)) rfl ⟨rfl, ?_⟩
   exact hb.2.1 S w (by omega) HI.out.bl.drew
 | true =>
  go_enter Tryz.func219, Tryz.ntmps219
  go_wp2_with fail
  refine (HS.out _).mono ?_
  rintro e w1 ⟨rfl, hw1⟩
  have I1 := HT.out.1.keep hw1 (by rw [HWs.out]; omega)
  have I2 := HT.out.2.1.keep hw1 (by rw [HWs.out]; omega)
  have I3 := HT.out.2.2.1.keep hw1 (by rw [HWs.out]; omega)
  have B1 : Below S w w1 := HT.out.2.2.2.1.trans (hw1.mono (by rw [HWs.out]; omega))
  have z1w : S + 1 + 1 + 1 ≤ w1.heap.size := Nat.le_trans (Nat.le_of_eq HWs.out.symm) hw1.size
  have HI := Lib.hid (And.intro I1 (And.intro I2 (And.intro I3 B1)))
  clear hw1 HT hW a0 a1 a2 a3 a4 a5 a6 a7 a8 x0 x1 x2 x3 x4 x5 x6 x7 x8 b0 b1 b2 b3 b4 b5 b6 b7 b8 y0 y1 y2 y3 y4 y5 y6 y7 y8
  obtain ⟨⟨a0, x0⟩, ⟨a1, x1⟩, ⟨a2, x2⟩, ⟨a3, x3⟩, ⟨a4, x4⟩, ⟨a5, x5⟩, ⟨a6, x6⟩, ⟨a7, x7⟩, ⟨a8, x8⟩⟩ := I1.nine
  obtain ⟨⟨b0, y0⟩, ⟨b1, y1⟩, ⟨b2, y2⟩, ⟨b3, y3⟩, ⟨b4, y4⟩, ⟨b5, y5⟩, ⟨b6, y6⟩, ⟨b7, y7⟩, ⟨b8, y8⟩⟩ := I2.nine
  clear x0 x1 x2 x3 x4 x5 x6 x7 x8 y0 y1 y2 y3 y4 y5 y6 y7 y8 I1 I2 I3 B1
  go_wp2_with fail
  refine (HG.out _).mono ?_
  rintro e w2 ⟨rfl, hw2⟩
  have J1 := (HI.out.1.keep hw2 (by omega)).alloc (by have := hw2.size; omega) (boxI false g 92)
  have J2 := (HI.out.2.1.keep hw2 (by omega)).alloc (by have := hw2.size; omega) (boxI false g 92)
  have J3 := (HI.out.2.2.1.keep hw2 (by omega)).alloc (by have := hw2.size; omega) (boxI false g 92)
  have B2 : Below S w (w2.alloc (boxI false g 92)) := (HI.out.2.2.2.trans (hw2.mono (by omega))).alloc (by have := hw2.size; omega) _
  have J4 := IntAt.new w2 false g 92
  have z2w : S + 1 + 1 + 1 ≤ w2.heap.size := Nat.le_trans z1w hw2.size
  have hs2 : (w2.alloc (boxI false g 92)).heap.size = w2.heap.size + 1 := by simp
  obtain ⟨R, hR⟩ : ∃ R, w2.heap.size = R := ⟨_, rfl⟩
  rw [hR] at J4 z2w hs2
  obtain ⟨wx, hwx⟩ : ∃ wx, w2.alloc (boxI false g 92) = wx := ⟨_, rfl⟩
  rw [hwx] at J1 J2 J3 J4 B2 hs2
  clear hw2 HI a0 a1 a2 a3 a4 a5 a6 a7 a8 b0 b1 b2 b3 b4 b5 b6 b7 b8
  obtain ⟨⟨b0, y0⟩, ⟨b1, y1⟩, ⟨b2, y2⟩, ⟨b3, y3⟩, ⟨b4, y4⟩, ⟨b5, y5⟩, ⟨b6, y6⟩, ⟨b7, y7⟩, ⟨b8, y8⟩⟩ := J2.nine
  have HJ := Lib.hid (And.intro J1 (And.intro J2 (And.intro J3 (And.intro J4 B2))))
  have HR := Lib.hid hs2
  clear y0 y1 y2 y3 y4 y5 y6 y7 y8 J1 J2 J3 J4 B2 hs2 z1w
  go_wp2_with fail
  refine (HS.out _).mono ?_
  rintro e w4 ⟨rfl, hw4⟩
  have K1 := HJ.out.1.keep hw4 (by rw [HR.out]; omega)
  have K2 := HJ.out.2.1.keep hw4 (by rw [HR.out]; omega)
  have K3 := HJ.out.2.2.1.keep hw4 (by rw [HR.out]; omega)
  have K4 := HJ.out.2.2.2.1.keep hw4 (by rw [HR.out]; omega)
  have B4 : Below S w w4 := HJ.out.2.2.2.2.trans (hw4.mono (by rw [HR.out]; omega))
  have z4w : R + 1 ≤ w4.heap.size := Nat.le_trans (Nat.le_of_eq HR.out.symm) hw4.size
  clear hw4 HJ hwx hR HR HS HG b0 b1 b2 b3 b4 b5 b6 b7 b8
  obtain ⟨⟨a0, x0⟩, ⟨a1, x1⟩, ⟨a2, x2⟩, ⟨a3, x3⟩, ⟨a4, x4⟩, ⟨a5, x5⟩, ⟨a6, x6⟩, ⟨a7, x7⟩, ⟨a8, x8⟩⟩ := K4.nine
  have HK := Lib.hid (And.intro K1 (And.intro K2 (And.intro K3 (And.intro K4 B4))))
  clear x0 x1 x2 x3 x4 x5 x6 x7 x8 K1 K2 K3 K4 B4
  go_wp2_with fail
  refine (HN.out _).mono ?_
  rintro e w5 ⟨rfl, hw5⟩
  have U4 := HK.out.2.2.2.1.keep hw5 (by omega)
  have bb := st9_but w5 R true g
  have Y1 := (HK.out.1.keep hw5 (by omega)).but bb (by omega)
  have Y2 := (HK.out.2.1.keep hw5 (by omega)).but bb (by omega)
  have Y3 := st9_at (t := true) (m := g) U4
  have Y4 := (HK.out.2.2.1.keep hw5 (by omega)).but bb (by omega)
  have YB : Below S w (st9 w5 R true g) := bb.2.1 S w (by omega) (HK.out.2.2.2.2.trans (hw5.mono (by omega)))
  have z4x : R + 1 ≤ (st9 w5 R true g).heap.size := by rw [bb.2.2]; exact Nat.le_trans z4w hw5.size
  obtain ⟨⟨a0, x0⟩, ⟨a1, x1⟩, ⟨a2, x2⟩, ⟨a3, x3⟩, ⟨a4, x4⟩, ⟨a5, x5⟩, ⟨a6, x6⟩, ⟨a7, x7⟩, ⟨a8, x8⟩⟩ := U4.nine
  clear z4w HK hw5 bb U4 HN
  obtain ⟨wy, hwy⟩ : ∃ wy, st9 w5 R true g = wy := ⟨_, rfl⟩
  rw [hwy] at Y1 Y2 Y3 Y4 YB z4x
  obtain ⟨E, hwE⟩ : ∃ E, wy.heap.size = E := ⟨_, rfl⟩
  rw [hwE] at z4x
  unfold st9 at hwy
  go_upto_region 6 with fail
  clear hwy a0 a1 a2 a3 a4 a5 a6 a7 a8 x0 x1 x2 x3 x4 x5 x6 x7 x8
  have HSZ : Hid (wy.heap.size = E) := hwE
  have Z1 := Y1.alloc (by omega) (.cells #[.nilIface] 254)
  have Z2 := Y2.alloc (by omega) (.cells #[.nilIface] 254)
  have Z3 := Y3.alloc (by omega) (.cells #[.nilIface] 254)
  have Z4 := Y4.alloc (by omega) (.cells #[.nilIface] 254)
  have ZB : Below S w (wy.alloc (.cells #[.nilIface] 254)) := YB.alloc (by omega) _
  have ZE := ErrAt.new wy 254
  have hs0 : (wy.alloc (.cells #[.nilIface] 254)).heap.size = E + 1 := by simp [hwE]
  rw [hwE] at ZE
  obtain ⟨wz, hwz⟩ : ∃ wz, wy.alloc (.cells #[.nilIface] 254) = wz := ⟨_, rfl⟩
  rw [hwz] at Z1 Z2 Z3 Z4 ZB ZE hs0
  have HIw : Hid (MkInv w wz S R E s n true m true g) := ⟨Z1, Z2, Z3, Z4, ZB, ZE, Nat.le_of_eq hs0.symm, z2w, by omega⟩
  have HI0 := Lib.hid HIw.out.drew
  have Hs0 : Hid (wz.heap.size = E + 1) := hs0
  clear Z1 Z2 Z3 Z4 ZB ZE HSZ Y1 Y2 Y3 Y4 YB
  go_upto_region 7 with fail
  clear hwz hwE
  go_cut [8] (fun t8 wx => MkOut w wx S R E s n true m true g z1 q1 q2 t8)
  case first =>
   refine rg_begin (fun W' => MkInv w W' S R E s n true m true g) (by kernel_rfl) HI0.out (fun hS => ?_)
   refine rg_take 0 (intV s n) rfl (by kernel_rfl) (by kernel_rfl) (by kernel_rfl) (fun _ _ _ h => h) rfl (fun w hSw => ld_int (.tmp 2) rfl rfl hSw.i1.o) hS ?_
   simp only [zA, zB, zC, Act.put, zD, zE, zF]
   refine rg_take 1 (intV true g) rfl (by kernel_rfl) (by kernel_rfl) (by kernel_rfl) (fun _ _ _ h => h) rfl (fun w hSw => ld_int (.tmp 6) rfl rfl hSw.i3.o) hS ?_
   simp only [zA, zB, zC, Act.put, zD, zE, zF]
   refine rg_take 3 (intV true m) rfl (by kernel_rfl) (by kernel_rfl) (by kernel_rfl) (fun _ _ _ h => h) rfl (fun w hSw => ld_int (.tmp 3) rfl rfl hSw.i2.o) hS ?_
   simp only [zA, zB, zC, Act.put, zD, zE, zF]
   refine rg_take 4 (intV true g) rfl (by kernel_rfl) (by kernel_rfl) (by kernel_rfl) (fun _ _ _ h => h) rfl (fun w hSw => ld_int (.tmp 6) rfl rfl hSw.i3.o) hS ?_
   simp only [zA, zB, zC, Act.put, zD, zE, zF]
   refine rg_two 2 7 (by kernel_rfl) ?_ ?_
   ·refine rs_of rfl rfl (wp_call rfl enters_do rfl (HH1.out _ E (Lib.hid hS.er)) (fun w6 hw6 => ⟨hS.ste hw6, ?_⟩))
    have hS1 := hS.ste hw6
    clear hS hw6
    simp only [zA, zB, zC, Act.put, zD, zE, zF]
    refine rg_two 5 7 (by kernel_rfl) ?_ ?_
    ·refine rs_of rfl rfl (wp_call rfl enters_do rfl (HH2.out _ E (Lib.hid hS1.er)) (fun w7 hw7 => ⟨hS1.ste hw7, ?_⟩))
     have hS := hS1.ste hw7
     clear hS1 hw7
     simp only [zA, zB, zC, Act.put, zD, zE, zF]
     refine rg_take 6 (ratV z1 q1 false q2) rfl (by kernel_rfl) (by kernel_rfl) (by kernel_rfl) (fun _ _ _ h => h) rfl (fun w hSw => build_rat rfl rfl rfl) hS ?_
     simp only [zA, zB, zC, Act.put, zD, zE, zF]
     refine rg_one 7 (by kernel_rfl) (rs_of rfl rfl (wp_value (alloc_rat rfl) ⟨hS.alloc _, ?_⟩))
     have hZ := RatAt.zero w7 94
     have hL : E < w7.heap.size := hS.sz
     have hS1 := hS.alloc (boxRZ 94)
     clear hS
     simp only [zA, zB, zC, Act.put, zD, zE, zF]
     refine rg_one 8 (by kernel_rfl) (rs_of rfl rfl (stores_rat (.tmp 8) (.tmp 28) rfl rfl rfl hZ ⟨hS1.but (st18_but _ _ z1 q1 false q2) hL, ?_⟩))
     refine wpAnyH_done (by kernel_rfl) ?_ _
     simp only [zA, zB, zC, Act.put, zD, zE, zF]
     go_wp2_with fail
     go_meet
     exact ⟨_, rfl, hL, st18_at hZ, hS1.but (st18_but _ _ z1 q1 false q2) hL⟩
    ·refine rs_of rfl rfl (wp_value (alloc_rat rfl) ⟨hS1.alloc _, ?_⟩)
     have hZ := RatAt.zero w6 94
     have hL : E < w6.heap.size := hS1.sz
     have hS := hS1.alloc (boxRZ 94)
     have hl : w6.heap.size < (w6.alloc (boxRZ 94)).heap.size := by simp
     clear hS1
     simp only [zA, zB, zC, Act.put, zD, zE, zF]
     generalize w6.alloc (boxRZ 94) = w6' at *
     generalize w6.heap.size = L at *
     refine rg_one 5 (by kernel_rfl) (rs_of rfl rfl (wp_call rfl enters_do rfl (HH2.out _ E (Lib.hid hS.er)) (fun w7 hw7 => ⟨hS.ste hw7, ?_⟩)))
     have hS1 := hS.ste hw7
     have hZ1 := hZ.ste hw7 hl (by omega)
     clear hS hZ hl hw7
     simp only [zA, zB, zC, Act.put, zD, zE, zF]
     refine rg_take 6 (ratV z1 q1 false q2) rfl (by kernel_rfl) (by kernel_rfl) (by kernel_rfl) (fun _ _ _ h => h) rfl (fun w hSw => build_rat rfl rfl rfl) hS1 ?_
     simp only [zA, zB, zC, Act.put, zD, zE, zF]
     refine rg_one 8 (by kernel_rfl) (rs_of rfl rfl (stores_rat (.tmp 8) (.tmp 28) rfl rfl rfl hZ1 ⟨hS1.but (st18_but _ _ z1 q1 false q2) hL, ?_⟩))
     refine wpAnyH_done (by kernel_rfl) ?_ _
     simp only [zA, zB, zC, Act.put, zD, zE, zF]
     go_wp2_with fail
     go_meet
     exact ⟨_, rfl, hL, st18_at hZ1, hS1.but (st18_but _ _ z1 q1 false q2) hL⟩
   ·refine rs_of rfl rfl (wp_value (alloc_rat rfl) ⟨hS.alloc _, ?_⟩)
    have hZ := RatAt.zero wz.drew 94
    have hL : E < wz.drew.heap.size := hS.sz
    have hS1 := hS.alloc (boxRZ 94)
    have hl : wz.drew.heap.size < (wz.drew.alloc (boxRZ 94)).heap.size := by simp
    clear hS
    simp only [zA, zB, zC, Act.put, zD, zE, zF]
    generalize wz.drew.alloc (boxRZ 94) = wz' at *
    generalize wz.drew.heap.size = L at *
    refine rg_one 2 (by kernel_rfl) (rs_of rfl rfl (wp_call rfl enters_do rfl (HH1.out _ E (Lib.hid hS1.er)) (fun w6 hw6 => ⟨hS1.ste hw6, ?_⟩)))
    have hS := hS1.ste hw6
    have hZ1 := hZ.ste hw6 hl (by omega)
    have hl1 := Nat.lt_of_lt_of_le hl hw6.size
    clear hS1 hZ hl hw6
    simp only [zA, zB, zC, Act.put, zD, zE, zF]
    refine rg_one 5 (by kernel_rfl) (rs_of rfl rfl (wp_call rfl enters_do rfl (HH2.out _ E (Lib.hid hS.er)) (fun w7 hw7 => ⟨hS.ste hw7, ?_⟩)))
    have hS1 := hS.ste hw7
    have hZ2 := hZ1.ste hw7 hl1 (by omega)
    clear hS hZ1 hl1 hw7
    simp only [zA, zB, zC, Act.put, zD, zE, zF]
    refine rg_take 6 (ratV z1 q1 false q2) rfl (by kernel_rfl) (by kernel_rfl) (by kernel_rfl) (fun _ _ _ h => h) rfl (fun w hSw => build_rat rfl rfl rfl) hS1 ?_
    simp only [zA, zB, zC, Act.put, zD, zE, zF]
    refine rg_one 8 (by kernel_rfl) (rs_of rfl rfl (stores_rat (.tmp 8) (.tmp 28) rfl rfl rfl hZ2 ⟨hS1.but (st18_but _ _ z1 q1 false q2) hL, ?_⟩))
    refine wpAnyH_done (by kernel_rfl) ?_ _
    simp only [zA, zB, zC, Act.put, zD, zE, zF]
    go_wp2_with fail
    go_meet
    exact ⟨_, rfl, hL, st18_at hZ2, hS1.but (st18_but _ _ z1 q1 false q2) hL⟩
  case rest =>
   obtain ⟨L, rfl, hL, hR, hI⟩ := hcut
   have h1 := hI.r1
   have h2 := hI.r2
   have HI := Lib.hid hI
   clear hI
   go_upto_region 8 with fail
   refine rg_begin (fun W' => RatAt W' L z1 q1 false q2 ∧ ErrAt W' E 0) (by kernel_rfl) ⟨hR.drew, HI.out.er.drew⟩ (fun hS => ?_)
   refine rg_take 0 (ratV z1 q1 false q2) rfl (by kernel_rfl) (by kernel_rfl) (by kernel_rfl) (fun _ _ _ h => h) rfl (fun w hSw => ld_rat (.tmp 8) rfl rfl hSw.1) hS ?_
   simp only [zA, zB, zC, Act.put, zD, zE, zF]
   refine rg_take 1 (.pointer (some ⟨E, 0, none⟩)) rfl (by kernel_rfl) (by kernel_rfl) (by kernel_rfl) (fun _ _ _ h => h) rfl (fun w _ => ?_) hS ?_
   ·go_simp
   simp only [zA, zB, zC, Act.put, zD, zE, zF]
   refine rg_take 2 (.nilIface) rfl (by kernel_rfl) (by kernel_rfl) (by kernel_rfl) (fun _ _ _ h => h) rfl (fun w hSw => ?_) hS ?_
   ·have e0 : w.cell? ⟨E, 0, none⟩ = some .nilIface := hSw.2.cell
    go_simp
   simp only [zA, zB, zC, Act.put, zD, zE, zF]
   have hb := st18_but wc.drew (S + 1 + 1) z1 q1 false q2
   refine rg_one 3 (by kernel_rfl) (rs_of rfl rfl (stores_rat (.tmp 4) (.tmp 29) rfl rfl rfl HI.out.i4.drew ⟨⟨hS.1.but hb (by omega), ErrAt.but1 hS.2 hb (by omega)⟩, ?_⟩))
   have hS := (show RatAt _ L z1 q1 false q2 ∧ ErrAt _ E 0 from ⟨hS.1.but hb (by omega), ErrAt.but1 hS.2 hb (by omega)⟩)
   simp only [zA, zB, zC, Act.put, zD, zE, zF]
   refine rg_take 4 (.nilIface) rfl (by kernel_rfl) (by kernel_rfl) (by kernel_rfl) (fun _ _ _ h => h) rfl (fun w _ => ?_) hS ?_
   ·go_simp
   simp only [zA, zB, zC, Act.put, zD, zE, zF]
   refine wpAnyH_done (by kernel_rfl) ?_ _
   go_wp2_with fail
   refine bodyPost_ret (v := .tuple #[ratV z1 q1 false q2, .nilIface]) (results_rat rfl rfl rfl (st18_at HI.out.i4.drew)) rfl ⟨rfl, ?_⟩
   exact hb.2.1 S w (by omega) HI.out.bl.drew
end Go.Proofs.YtgkhjeefcflmcaaGreatDoor
namespace Go.Proofs.YtgkhjeefcflmcaaGreatDoor
open Go.RowKit Go.Sort
set_option linter.unusedSimpArgs false
def resS (s : Bool) (n : Nat) : Bool := if n < 18446744073709551616 ^ 8 then sgn s n else false
def resN (n : Nat) : Nat := if n < 18446744073709551616 ^ 8 then n else 0
def resK (n : Nat) : Nat := if n < 18446744073709551616 ^ 8 then 0 else 9
theorem resV_eq (s : Bool) (n : Nat) : resV s n = .tuple #[intV (resS s n) (resN n), errV (resK n)] := by
 unfold resV resS resN resK
 by_cases h : n < 18446744073709551616 ^ 8
 ·rw [if_pos h, if_pos h, if_pos h, if_pos h]; rfl
 ·rw [if_neg h, if_neg h, if_neg h, if_neg h]; rfl
theorem resN_fits (n : Nat) : Fits (resN n) := by
 unfold resN Fits
 by_cases h : n < 18446744073709551616 ^ 8
 ·rw [if_pos h]; exact h
 ·rw [if_neg h]; exact Nat.pow_pos (by decide)
def doS (k : Nat) (z : Bool) : Bool := if k = 0 then z else false
def doN (k r : Nat) : Nat := if k = 0 then r else 0
theorem doN_fits (k : Nat) {r : Nat} (h : Fits r) : Fits (doN k r) := by
 unfold doN
 split
 ·exact h
 ·exact Nat.pow_pos (by decide)
theorem do_run (f b k j : Nat) (s : Bool) (n : Nat) (t : Bool) (m : Nat) (z : Bool) (r : Nat) (w : World) (h : Hid (ErrAt w b k)) (hcf : Hid (Enters f))
  (hop : Hid (∀ W, Calls Tryz.prog f #[intV s n, intV t m] W fun e w' => e = .returned (.tuple #[intV z r, errV j]) ∧ Below W.heap.size W w')) :
  Calls Tryz.prog 192 #[.pointer (some ⟨b, 0, none⟩), fnV f, intV s n, intV t m] w fun e w' => e = .returned (intV (doS k z) (doN k r)) ∧ Ste w w' b (kept k j) := by
 unfold doS doN kept
 by_cases hk : k = 0
 ·subst hk
  simp only [if_true]
  exact do_first f b j s n t m z r w h hcf hop
 ·simp only [if_neg hk]
  exact do_past f b k hk s n t m w h
theorem do_mul (b k : Nat) (s : Bool) (n : Nat) (t : Bool) (m : Nat) (w : World) (h : Hid (ErrAt w b k)) (hn : Hid (Fits n)) (hm : Hid (Fits m)) :
  Calls Tryz.prog 192 #[.pointer (some ⟨b, 0, none⟩), fnV 193, intV s n, intV t m] w fun e w' => e = .returned (intV (doS k (resS (s != t) (n * m))) (doN k (resN (n * m)))) ∧ Ste w w' b (kept k (resK (n * m))) :=
 do_run _ b k _ s n t m _ _ w h enters_Mul fun W => (Mul_run s n t m W hn hm).mono fun e w' ⟨he, hw⟩ => ⟨by rw [he, resV_eq], hw⟩
structure CrInv (w W : World) (S B : Nat) (k : Nat) (s : Bool) (n : Nat) (t : Bool) (d : Nat) (s' : Bool) (n' : Nat) (t' : Bool) (d' : Nat) : Prop where
 st : Ste w W B k
 pr : PairAt W B k s n t d s' n' t' d'
 i1 : IntAt W S false 0
 i2 : IntAt W (S + 1) false 0
 hw : w.heap.size = S
 hB : B < S
 sz : S + 1 + 1 ≤ W.heap.size
theorem CrInv.ste {w W V : World} {S B k j n d n' d' : Nat} {s t s' t' : Bool} (h : CrInv w W S B k s n t d s' n' t' d') (g : Ste W V B j) : CrInv w V S B j s n t d s' n' t' d' :=
 have h1 := h.hB; have h2 := h.sz
 ⟨h.st.trans g, h.pr.ste g, h.i1.ste g (by omega) (by omega), h.i2.ste g (by omega) (by omega), h.hw, h1, Nat.le_trans h2 g.size⟩
theorem CrInv.drew {w W : World} {S B k n d n' d' : Nat} {s t s' t' : Bool} (h : CrInv w W S B k s n t d s' n' t' d') : CrInv w W.drew S B k s n t d s' n' t' d' := ⟨h.st.drew, h.pr.drew, h.i1.drew, h.i2.drew, h.hw, h.hB, h.sz⟩
theorem PairAt.but {w w' : World} {b c k n d n' d' : Nat} {s t s' t' : Bool} (h : PairAt w b k s n t d s' n' t' d') (g : But1 w w' c) (hne : b ≠ c) : PairAt w' b k s n t d s' n' t' d' :=
 ⟨h.err.but1 g hne, h.an.but g hne, h.ad.but g hne, h.bn.but g hne, h.bd.but g hne⟩
end Go.Proofs.YtgkhjeefcflmcaaGreatDoor
namespace Go.Proofs.YtgkhjeefcflmcaaGreatDoor
open Go.RowKit Go.Sort
set_option linter.unusedSimpArgs false
def mkS (s : Bool) (n : Nat) (t : Bool) (m : Nat) : Bool := if m = 0 then false else sgn (s != t) (n / Nat.gcd n m)
def mkN (n m : Nat) : Nat := if m = 0 then 0 else n / Nat.gcd n m
def mkD (n m : Nat) : Nat := if m = 0 then 0 else m / Nat.gcd n m
def mkK (m : Nat) : Nat := if m = 0 then 10 else 0
theorem makeV_eq (s : Bool) (n : Nat) (t : Bool) (m : Nat) : makeV s n t m = .tuple #[ratV (mkS s n t m) (mkN n m) false (mkD n m), errV (mkK m)] := by
 unfold makeV mkS mkN mkD mkK
 by_cases h : m = 0
 ·rw [if_pos h, if_pos h, if_pos h, if_pos h, if_pos h]
 ·rw [if_neg h, if_neg h, if_neg h, if_neg h, if_neg h]; rfl
theorem Make_run (s : Bool) (n : Nat) (t : Bool) (m : Nat) (w : World) (hn : Hid (Fits n)) (hm : Hid (Fits m)) :
  Calls Tryz.prog 219 #[intV s n, intV t m] w fun e w' => e = .returned (.tuple #[ratV (mkS s n t m) (mkN n m) false (mkD n m), errV (mkK m)]) ∧ Below w.heap.size w w' := by
 rw [← makeV_eq]
 rcases Nat.eq_zero_or_pos m with h | h
 ·subst h; exact Make_zero s n t w
 ·exact Make_pos s n t m w hn hm h
def rtS (k : Nat) (s : Bool) (n : Nat) (t : Bool) (m : Nat) : Bool := if k = 0 then mkS s n t m else false
def rtN (k n m : Nat) : Nat := if k = 0 then mkN n m else 0
def rtD (k n m : Nat) : Nat := if k = 0 then mkD n m else 0
def rtK (k m : Nat) : Nat := if k = 0 then mkK m else k
set_option maxRecDepth 100000 in
set_option maxHeartbeats 2000000 in
theorem ratio_run (B k : Nat) (s : Bool) (n : Nat) (t : Bool) (m : Nat) (w : World) (h : Hid (ErrAt w B k)) (hn : Hid (Fits n)) (hm : Hid (Fits m)) :
  Calls Tryz.prog 191 #[.pointer (some ⟨B, 0, none⟩), intV s n, intV t m] w fun e w' => e = .returned (.tuple #[ratV (rtS k s n t m) (rtN k n m) false (rtD k n m), errV (rtK k m)]) ∧ Below w.heap.size w w' := by
 obtain ⟨S, hS⟩ : ∃ S, w.heap.size = S := ⟨_, rfl⟩
 obtain ⟨W, hW⟩ : ∃ W, ((w.alloc (boxI s n 92)).alloc (boxI t m 92)).alloc (boxRZ 94) = W := ⟨_, rfl⟩
 have T := make_boxes w s n t m 92 92 94
 rw [hW] at T
 have HE := Lib.hid (h.out.below T.2.2.2.1)
 rw [hS] at T ⊢
 have hB : B < S := hS ▸ h.out.lt
 have HT := Lib.hid T
 have hWs : W.heap.size = S + 1 + 1 + 1 := T.2.2.2.2
 clear T h
 by_cases hk : k = 0
 ·subst hk
  have HM := Lib.hid (fun W => Make_run s n t m W hn hm)
  have e1 : rtS 0 s n t m = mkS s n t m := rfl
  have e2 : rtN 0 n m = mkN n m := rfl
  have e3 : rtD 0 n m = mkD n m := rfl
  have e4 : rtK 0 m = mkK m := rfl
  rw [e1, e2, e3, e4]
  clear e1 e2 e3 e4 hn hm
  generalize mkS s n t m = z at *
  generalize mkN n m = q at *
  generalize mkD n m = p at *
  have hv := errV_one (mkK m)
  generalize errV (mkK m) = v at *
  have HF := Lib.hid (failed_zero B W HE)
  have HWs := Lib.hid hWs
  clear hWs HE hB
  go_enter Tryz.func191, Tryz.ntmps191
  go_wp2_with (first | (refine wpList_box_int rfl (.tmp 1) rfl rfl ?_) | (refine wpList_box_int rfl (.tmp 2) rfl rfl ?_))
  refine HF.out.mono ?_
  rintro e w1 ⟨rfl, rfl⟩
  go_wp2_with (first | (refine wpList_load_int rfl (.tmp 4) rfl rfl HT.out.1.o ?_) | (refine wpList_load_int rfl (.tmp 5) rfl rfl HT.out.2.1.o ?_))
  refine (HM.out _).mono ?_
  rintro e w2 ⟨rfl, hw2⟩
  have R3 := Lib.hid (HT.out.2.2.1.keep hw2 (by rw [HWs.out]; omega))
  have B3 := Lib.hid (HT.out.2.2.2.1.trans (hw2.mono (by rw [HWs.out]; omega)))
  clear hw2 HT HF HM hW
  go_wp2_with (refine wpList_store_rat rfl (.tmp 6) (.tmp 21) rfl (s := z) (n := q) (t := false) (d := p) rfl rfl R3.out ?_)
  refine bodyPost_ret (v := .tuple #[ratV z q false p, v]) (results_rat rfl rfl rfl (st18_at R3.out)) rfl ⟨rfl, ?_⟩
  exact (st18_but w2 (S + 1 + 1) z q false p).2.1 S w (by omega) B3.out
 ·have e1 : rtS k s n t m = false := if_neg hk
  have e2 : rtN k n m = 0 := if_neg hk
  have e3 : rtD k n m = 0 := if_neg hk
  have e4 : rtK k m = k := if_neg hk
  rw [e1, e2, e3, e4]
  have HF := Lib.hid (failed_pos B k hk W HE)
  clear hWs e1 e2 e3 e4 hk hn hm
  go_enter Tryz.func191, Tryz.ntmps191
  go_wp2_with (first | (refine wpList_box_int rfl (.tmp 1) rfl rfl ?_) | (refine wpList_box_int rfl (.tmp 2) rfl rfl ?_))
  refine HF.out.mono ?_
  rintro e w1 ⟨rfl, rfl⟩
  go_wp2_with fail
  have bb := st18_but W.drew (S + 1 + 1) false 0 false 0
  refine rg_begin (fun W' => ErrAt W' B k) (by kernel_rfl) HE.out.drew (fun hS => ?_)
  refine rg_take 0 (ratV false 0 false 0) rfl (by kernel_rfl) (by kernel_rfl) (by kernel_rfl) (fun _ _ _ h => h) rfl (fun w _ => ?_) hS ?_
  ·rw [ratV_zero]; go_simp
  simp only [zA, zB, zC, Act.put, zD, zE, zF]
  refine rg_take 1 (.pointer (some ⟨B, 0, none⟩)) rfl (by kernel_rfl) (by kernel_rfl) (by kernel_rfl) (fun _ _ _ h => h) rfl (fun w _ => ?_) hS ?_
  ·go_simp
  simp only [zA, zB, zC, Act.put, zD, zE, zF]
  refine rg_take 2 (.pointer (some ⟨B, 0, none⟩)) rfl (by kernel_rfl) (by kernel_rfl) (by kernel_rfl) (fun _ _ _ h => h) rfl (fun w _ => ?_) hS ?_
  ·go_simp
  simp only [zA, zB, zC, Act.put, zD, zE, zF]
  refine rg_take 3 (.pointer (some ⟨B, 0, none⟩)) rfl (by kernel_rfl) (by kernel_rfl) (by kernel_rfl) (fun _ _ _ h => h) rfl (fun w _ => ?_) hS ?_
  ·go_simp
  simp only [zA, zB, zC, Act.put, zD, zE, zF]
  refine rg_take 4 (.pointer (some ⟨B, 0, none⟩)) rfl (by kernel_rfl) (by kernel_rfl) (by kernel_rfl) (fun _ _ _ h => h) rfl (fun w _ => ?_) hS ?_
  ·go_simp
  simp only [zA, zB, zC, Act.put, zD, zE, zF]
  refine rg_take 5 (errV k) rfl (by kernel_rfl) (by kernel_rfl) (by kernel_rfl) (fun _ _ _ h => h) rfl (fun w hSw => ?_) hS ?_
  ·have e0 : w.cell? ⟨B, 0, none⟩ = some (errV k) := hSw.cell
   go_simp
  simp only [zA, zB, zC, Act.put, zD, zE, zF]
  refine rg_one 6 (by kernel_rfl) (rs_of rfl rfl (stores_rat (.tmp 6) (.tmp 12) rfl (b := S + 1 + 1) (s := false) (n := 0) (t := false) (d := 0) rfl rfl HT.out.2.2.1.drew ⟨hS.but1 bb (by omega), ?_⟩))
  have hS := hS.but1 bb (by omega)
  simp only [zA, zB, zC, Act.put, zD, zE, zF]
  refine rg_take 7 (errV k) rfl (by kernel_rfl) (by kernel_rfl) (by kernel_rfl) (fun _ _ _ h => h) rfl (fun w _ => ?_) hS ?_
  ·go_simp
  simp only [zA, zB, zC, Act.put, zD, zE, zF]
  refine wpAnyH_done (by kernel_rfl) ?_ _
  go_wp2_with fail
  refine bodyPost_ret (v := .tuple #[ratV false 0 false 0, errV k]) (results_rat rfl rfl rfl (st18_at HT.out.2.2.1.drew)) rfl ⟨rfl, ?_⟩
  exact bb.2.1 S w (by omega) HT.out.2.2.2.1.drew
end Go.Proofs.YtgkhjeefcflmcaaGreatDoor
namespace Go.Proofs.YtgkhjeefcflmcaaGreatDoor
open Go.RowKit Go.Sort
set_option linter.unusedSimpArgs false
def opV (k : Nat) (z : Bool) (r j : Nat) (z' : Bool) (r' j' : Nat) : Value :=
 .tuple #[ratV (rtS (kept (kept k j) j') (doS k z) (doN k r) (doS (kept k j) z') (doN (kept k j) r')) (rtN (kept (kept k j) j') (doN k r) (doN (kept k j) r')) false (rtD (kept (kept k j) j') (doN k r) (doN (kept k j) r')), errV (rtK (kept (kept k j) j') (doN (kept k j) r'))]
theorem enters_ratio : EntersP Tryz.prog 191 := entersP_of Tryz.func191 (by kernel_rfl) rfl
structure OpInv (w W : World) (S B k : Nat) (s : Bool) (n : Nat) (t : Bool) (d : Nat) (s' : Bool) (n' : Nat) (t' : Bool) (d' : Nat) : Prop where
 ra : RatAt W S s n t d
 rb : RatAt W (S + 1) s' n' t' d'
 rz : RatAt W (S + 1 + 1) false 0 false 0
 er : ErrAt W B k
 bl : Below S w W
 hB : S + 1 + 1 < B
 sz : B < W.heap.size
theorem OpInv.ste {w W V : World} {S B k j n d n' d' : Nat} {s t s' t' : Bool} (h : OpInv w W S B k s n t d s' n' t' d') (g : Ste W V B j) : OpInv w V S B j s n t d s' n' t' d' :=
 have h1 := h.hB; have h2 := h.sz
 ⟨h.ra.ste g (by omega) (by omega), h.rb.ste g (by omega) (by omega), h.rz.ste g (by omega) (by omega), g.err, g.below S w (by omega) (by omega) h.bl, h1, Nat.lt_of_lt_of_le h2 g.size⟩
theorem OpInv.below {w W V : World} {S B k n d n' d' : Nat} {s t s' t' : Bool} (h : OpInv w W S B k s n t d s' n' t' d') (g : Below W.heap.size W V) : OpInv w V S B k s n t d s' n' t' d' :=
 have h1 := h.hB; have h2 := h.sz
 ⟨h.ra.keep g (by omega), h.rb.keep g (by omega), h.rz.keep g (by omega), h.er.below g, h.bl.trans (g.mono (by omega)), h1, Nat.lt_of_lt_of_le h2 g.size⟩
theorem OpInv.drew {w W : World} {S B k n d n' d' : Nat} {s t s' t' : Bool} (h : OpInv w W S B k s n t d s' n' t' d') : OpInv w W.drew S B k s n t d s' n' t' d' := ⟨h.ra.drew, h.rb.drew, h.rz.drew, h.er.drew, h.bl.drew, h.hB, h.sz⟩
theorem OpInv.but {w W V : World} {S B k c n d n' d' : Nat} {s t s' t' : Bool} (h : OpInv w W S B k s n t d s' n' t' d') (g : But1 W V c) (hc : B < c) : OpInv w V S B k s n t d s' n' t' d' :=
 have h1 := h.hB; have h2 := h.sz
 ⟨h.ra.but g (by omega), h.rb.but g (by omega), h.rz.but g (by omega), h.er.but1 g (by omega), g.2.1 S w (by omega) h.bl, h1, by rw [g.2.2]; exact h2⟩
theorem op_boxes (w : World) (s : Bool) (n : Nat) (t : Bool) (d : Nat) (s' : Bool) (n' : Nat) (t' : Bool) (d' : Nat) (T : TypeId) : RatAt (((w.alloc (boxR s n t d T)).alloc (boxR s' n' t' d' T)).alloc (boxRZ T)) w.heap.size s n t d ∧ RatAt (((w.alloc (boxR s n t d T)).alloc (boxR s' n' t' d' T)).alloc (boxRZ T)) (w.heap.size + 1) s' n' t' d' ∧ RatAt (((w.alloc (boxR s n t d T)).alloc (boxR s' n' t' d' T)).alloc (boxRZ T)) (w.heap.size + 1 + 1) false 0 false 0 ∧ Below w.heap.size w (((w.alloc (boxR s n t d T)).alloc (boxR s' n' t' d' T)).alloc (boxRZ T)) ∧ (((w.alloc (boxR s n t d T)).alloc (boxR s' n' t' d' T)).alloc (boxRZ T)).heap.size = w.heap.size + 1 + 1 + 1 := by
 have z1 : (w.alloc (boxR s n t d T)).heap.size = w.heap.size + 1 := by simp
 have z2 : ((w.alloc (boxR s n t d T)).alloc (boxR s' n' t' d' T)).heap.size = w.heap.size + 1 + 1 := by simp
 have r2 := RatAt.new (w.alloc (boxR s n t d T)) s' n' t' d' T
 have r3 := RatAt.zero ((w.alloc (boxR s n t d T)).alloc (boxR s' n' t' d' T)) T
 rw [z1] at r2
 rw [z2] at r3
 exact ⟨((RatAt.new w s n t d T).alloc (by simp) _).alloc (by omega) _, r2.alloc (by omega) _, r3, ((below_alloc w _).alloc (by simp) _).alloc (by omega) _, by simp⟩
end Go.Proofs.YtgkhjeefcflmcaaGreatDoor
