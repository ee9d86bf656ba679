/-
  The document's Do.
-/
import Derived.Test.YtgoemhcngmpfbaaGreatDoorMx25
namespace Go.Proofs.YtgoemhcngmpfbaaGreatDoor
open Go.RowKit Go.Sort
set_option linter.unusedSimpArgs false
set_option maxRecDepth 100000 in
set_option maxHeartbeats 8000000 in
theorem Do_all (kap : Int) (s : Bool) (n : Nat) (t : Bool) (d : Nat) (s' : Bool) (n' : Nat) (t' : Bool) (d' : Nat) (Z : Bool) (N D K : Nat) (w : World) (hn : Hid (Fits n)) (hd : Hid (Fits d)) (hn' : Hid (Fits n')) (hd' : Hid (Fits d')) (hkap : kap = 0 ∨ kap = 1 ∨ kap = 2 ∨ kap = 3)
  (E1 : Hid (chk s n t d ≠ 0 → Z = false ∧ N = 0 ∧ D = 0 ∧ K = 8)) (E2 : Hid (chk s' n' t' d' ≠ 0 → Z = false ∧ N = 0 ∧ D = 0 ∧ K = 8)) (H0 : Hid (kap = 0 → DoIs (chk s n t d) (chk s' n' t' d') (sgn (addS (sgn (sgn s n != sgn t' d') (n * d')) (n * d') (sgn (sgn s' n' != sgn t d) (n' * d)) (n' * d)) (addN (sgn (sgn s n != sgn t' d') (n * d')) (n * d') (sgn (sgn s' n' != sgn t d) (n' * d)) (n' * d))) (addN (sgn (sgn s n != sgn t' d') (n * d')) (n * d') (sgn (sgn s' n' != sgn t d) (n' * d)) (n' * d)) (sgn (sgn t d != sgn t' d') (d * d')) (d * d') (False) (Fits (n * d') ∧ Fits (n' * d) ∧ Fits (addN (sgn (sgn s n != sgn t' d') (n * d')) (n * d') (sgn (sgn s' n' != sgn t d) (n' * d)) (n' * d)) ∧ Fits (d * d')) Z N D K)) (H1 : Hid (kap = 1 → DoIs (chk s n t d) (chk s' n' t' d') (sgn (addS (sgn (sgn s n != sgn t' d') (n * d')) (n * d') (sgn (!sgn (sgn s' n' != sgn t d) (n' * d)) (n' * d)) (n' * d)) (addN (sgn (sgn s n != sgn t' d') (n * d')) (n * d') (sgn (!sgn (sgn s' n' != sgn t d) (n' * d)) (n' * d)) (n' * d))) (addN (sgn (sgn s n != sgn t' d') (n * d')) (n * d') (sgn (!sgn (sgn s' n' != sgn t d) (n' * d)) (n' * d)) (n' * d)) (sgn (sgn t d != sgn t' d') (d * d')) (d * d') (False) (Fits (n * d') ∧ Fits (n' * d) ∧ Fits (addN (sgn (sgn s n != sgn t' d') (n * d')) (n * d') (sgn (!sgn (sgn s' n' != sgn t d) (n' * d)) (n' * d)) (n' * d)) ∧ Fits (d * d')) Z N D K)) (H2 : Hid (kap = 2 → DoIs (chk s n t d) (chk s' n' t' d') (sgn (sgn s n != sgn s' n') (n * n')) (n * n') (sgn (sgn t d != sgn t' d') (d * d')) (d * d') (False) (Fits (n * n') ∧ Fits (d * d')) Z N D K)) (H3 : Hid (kap = 3 → DoIs (chk s n t d) (chk s' n' t' d') (sgn (sgn s n != sgn t' d') (n * d')) (n * d') (sgn (sgn t d != sgn s' n') (d * n')) (d * n') (n' = 0) (Fits (n * d') ∧ Fits (d * n')) Z N D K)) :
  Calls Tryz.prog 115 #[ratV s n t d, ratV s' n' t' d', .int .i64 kap] w fun e w' => e = .returned (.tuple #[ratV Z N false D, .int .i64 (K : Int)]) ∧ Below w.heap.size w w' := by
 obtain ⟨S, hS⟩ : ∃ S, w.heap.size = S := ⟨_, rfl⟩
 obtain ⟨W0, hW0⟩ : ∃ W, ((w.alloc (boxR s n t d 27)).alloc (boxR s' n' t' d' 27)).alloc (boxRZ 27) = W := ⟨_, rfl⟩
 have I := (((Bs.start w hS).pushRat hS s n t d 27).pushRat (k := S + 1) (by simp [hS]) s' n' t' d' 27).pushRatZ (k := S + 1 + 1) (by simp [hS]) 27
 rw [hW0] at I
 replace I := Lib.hid I
 obtain ⟨k1, hk1⟩ : ∃ k, chk s n t d = k := ⟨_, rfl⟩
 obtain ⟨k2, hk2⟩ : ∃ k, chk s' n' t' d' = k := ⟨_, rfl⟩
 have HC1 := Lib.hid (fun W => Check_run8 s n t d k1 W hn hd hk1)
 have HC2 := Lib.hid (fun W => Check_run8 s' n' t' d' k2 W hn' hd' hk2)
 have hk8 : k1 = 0 ∨ k1 = 8 := by rw [← hk1]; exact chk_le s n t d
 have hj8 : k2 = 0 ∨ k2 = 8 := by rw [← hk2]; exact chk_le s' n' t' d'
 rw [hk1] at E1
 rw [hk2] at E2
 rw [hk1, hk2] at H0 H1 H2 H3
 clear hk1 hk2
 obtain ⟨z1, hz1⟩ : ∃ z, sgn s n = z := ⟨_, rfl⟩
 obtain ⟨z2, hz2⟩ : ∃ z, sgn t d = z := ⟨_, rfl⟩
 obtain ⟨z3, hz3⟩ : ∃ z, sgn s' n' = z := ⟨_, rfl⟩
 obtain ⟨z4, hz4⟩ : ∃ z, sgn t' d' = z := ⟨_, rfl⟩
 obtain ⟨L1, hL1⟩ : ∃ L, nl n = L := ⟨_, rfl⟩
 obtain ⟨L2, hL2⟩ : ∃ L, nl d = L := ⟨_, rfl⟩
 obtain ⟨L3, hL3⟩ : ∃ L, nl n' = L := ⟨_, rfl⟩
 obtain ⟨L4, hL4⟩ : ∃ L, nl d' = L := ⟨_, rfl⟩
 have HN1 := Lib.hid (fun W => Num_run s z1 n L1 W hn hz1 hL1)
 have HN2 := Lib.hid (fun W => Num_run t z2 d L2 W hd hz2 hL2)
 have HN3 := Lib.hid (fun W => Num_run s' z3 n' L3 W hn' hz3 hL3)
 have HN4 := Lib.hid (fun W => Num_run t' z4 d' L4 W hd' hz4 hL4)
 have g1 := nl_fits hL1 hn.out
 have g2 := nl_fits hL2 hd.out
 have g3 := nl_fits hL3 hn'.out
 have g4 := nl_fits hL4 hd'.out
 rw [hz1, hz2, hz3, hz4] at H0 H1
 rw [hz1, hz2, hz3, hz4] at H2
 rw [hz1, hz2, hz3, hz4] at H3
 obtain ⟨p, hp⟩ : ∃ p, n * d' = p := ⟨_, rfl⟩
 obtain ⟨q, hq⟩ : ∃ q, n' * d = q := ⟨_, rfl⟩
 obtain ⟨x, hx⟩ : ∃ x, d * d' = x := ⟨_, rfl⟩
 obtain ⟨y, hy⟩ : ∃ y, n * n' = y := ⟨_, rfl⟩
 obtain ⟨v, hv⟩ : ∃ v, d * n' = v := ⟨_, rfl⟩
 obtain ⟨Lp, hLp⟩ : ∃ L, nl p = L := ⟨_, rfl⟩
 obtain ⟨Lq, hLq⟩ : ∃ L, nl q = L := ⟨_, rfl⟩
 obtain ⟨Lx, hLx⟩ : ∃ L, nl x = L := ⟨_, rfl⟩
 obtain ⟨Ly, hLy⟩ : ∃ L, nl y = L := ⟨_, rfl⟩
 obtain ⟨Lv, hLv⟩ : ∃ L, nl v = L := ⟨_, rfl⟩
 obtain ⟨zp, hzp⟩ : ∃ z, sgn (z1 != z4) p = z := ⟨_, rfl⟩
 obtain ⟨zq, hzq⟩ : ∃ z, sgn (z3 != z2) q = z := ⟨_, rfl⟩
 obtain ⟨zx, hzx⟩ : ∃ z, sgn (z2 != z4) x = z := ⟨_, rfl⟩
 obtain ⟨zy, hzy⟩ : ∃ z, sgn (z1 != z3) y = z := ⟨_, rfl⟩
 obtain ⟨zv, hzv⟩ : ∃ z, sgn (z2 != z3) v = z := ⟨_, rfl⟩
 have g5 := nl_mul64 hp hLp hn.out hd'.out
 have g6 := nl_mul64 hq hLq hn'.out hd.out
 have g7 := nl_mul64 hx hLx hd.out hd'.out
 have HM1 := Lib.hid (fun W A c B e ha hb => Mul_out (L := L1) (L' := L4) (by omega) hzp hp hLp W A c B e ha hb)
 have HM2 := Lib.hid (fun W A c B e ha hb => Mul_out (L := L3) (L' := L2) (by omega) hzq hq hLq W A c B e ha hb)
 have HM3 := Lib.hid (fun W A c B e ha hb => Mul_out (L := L2) (L' := L4) (by omega) hzx hx hLx W A c B e ha hb)
 have HM4 := Lib.hid (fun W A c B e ha hb => Mul_out (L := L1) (L' := L3) (by omega) hzy hy hLy W A c B e ha hb)
 have HM5 := Lib.hid (fun W A c B e ha hb => Mul_out (L := L2) (L' := L3) (by omega) hzv hv hLv W A c B e ha hb)
 have g8 := nl_mul64 hy hLy hn.out hn'.out
 have g9 := nl_mul64 hv hLv hd.out hn'.out
 rw [hp, hq, hx, hzp, hzq, hzx] at H0 H1
 rw [hx, hy, hzx, hzy] at H2
 rw [hp, hv, hzp, hzv] at H3
 have HL3 := Lib.hid hL3
 replace hLp := Lib.hid hLp
 replace hLq := Lib.hid hLq
 replace hLx := Lib.hid hLx
 replace hLy := Lib.hid hLy
 replace hLv := Lib.hid hLv
 clear hp hq hx hy hv hzp hzq hzx hzy hzv hz1 hz2 hz3 hz4 hL1 hL2 hL3 hL4 hn hd hn' hd'
 rw [hS]
 go_enter Tryz.func115, Tryz.ntmps115
 have HRa := Lib.hid (I.out.rat 2 rfl)
 go_wp2_with (first | (with_reducible refine wpList_box_rat rfl (.tmp 0) rfl rfl ?_) | (with_reducible refine wpList_box_rat rfl (.tmp 1) rfl rfl ?_) | (with_reducible refine wpList_load_rat rfl (.tmp 3) rfl rfl HRa.out ?_))
 refine (HC1.out _).mono ?_
 rintro e w1 ⟨rfl, hw⟩
 replace I := Lib.hid (I.out.below hw)
 clear hw hW0 HC1 HRa
 rcases hk8 with rfl | rfl
 rotate_left
 ·obtain ⟨rfl, rfl, rfl, rfl⟩ := E1.out (by decide)
  have HZ := Lib.hid (I.out.rat 0 rfl)
  go_wp2_with (first | (with_reducible refine wpList_build_zero rfl rfl ?_) | (with_reducible refine wpList_store_rat rfl (.tmp 6) (.tmp 21) rfl (b := S + 1 + 1) (s := false) (n := 0) (t := false) (d := 0) rfl rfl HZ.out ?_))
  have I2 := I.out.putRat 0 rfl false 0 false 0 rfl
  exact bodyPost_ret (v := .tuple #[ratV false 0 false 0, .int .i64 (8 : Nat)]) (results_rat rfl rfl rfl (I2.rat 0 rfl)) rfl ⟨rfl, I2.bl⟩
 have HRb := Lib.hid (I.out.rat 1 rfl)
 go_wp2_with ((with_reducible refine wpList_load_rat_w ?hw1 (.tmp 4) rfl rfl HRb.out ?_); case hw1 => rfl)
 refine (HC2.out _).mono ?_
 rintro e w2 ⟨rfl, hw⟩
 replace I := Lib.hid (I.out.below hw)
 clear hw HC2 HRb
 rcases hj8 with rfl | rfl
 rotate_left
 ·obtain ⟨rfl, rfl, rfl, rfl⟩ := E2.out (by decide)
  have HZ := Lib.hid (I.out.rat 0 rfl)
  go_wp2_with (first | (with_reducible refine wpList_build_zero rfl rfl ?_) | (with_reducible refine wpList_store_rat rfl (.tmp 6) (.tmp 21) rfl (b := S + 1 + 1) (s := false) (n := 0) (t := false) (d := 0) rfl rfl HZ.out ?_))
  have I2 := I.out.putRat 0 rfl false 0 false 0 rfl
  exact bodyPost_ret (v := .tuple #[ratV false 0 false 0, .int .i64 (8 : Nat)]) (results_rat rfl rfl rfl (I2.rat 0 rfl)) rfl ⟨rfl, I2.bl⟩
 go_upto_region 3 with fail
 go_cut [31] (fun s31 wx => ∃ b : Bool, s31 = .bool b ∧ Hid (b = true → kap = 3 ∧ n' = 0) ∧ Hid (b = false → kap = 3 → ¬ n' = 0) ∧ Bs w S [.rat (S + 1 + 1) false 0 false 0, .rat (S + 1) s' n' t' d', .rat S s n t d] wx)
 case first =>
  by_cases h3 : kap = 3
  ·subst h3
   have HRb := Lib.hid (I.out.rat 1 rfl)
   go_wp2_with ((with_reducible refine wpList_load_int_w ?hw1 (.tmp 25) rfl rfl HRb.out.num ?_); case hw1 => rfl)
   refine (HN3.out _).mono ?_
   rintro e w3 ⟨⟨A9, c9⟩, rfl, hgg, hw⟩
   replace I := Lib.hid (I.out.below hw)
   clear hw HRb hgg
   have hfd := fieldD z3 A9 L3 c9 w3
   by_cases hL0 : L3 = 0
   ·subst hL0
    have hn0 : n' = 0 := nl_eq_zero.1 HL3.out
    replace hn0 := Lib.hid hn0
    go_wp2_with fail
    go_meet
    exact ⟨true, rfl, fun _ => ⟨trivial, hn0.out⟩, fun h => (by cases h), I.out⟩
   ·have hn0 : Hid (¬ n' = 0) := fun e => hL0 (by rw [← HL3.out, e, nl_zero])
    have hL0b : ((L3 : Int) == 0) = false := by simp; omega
    go_wp2_with fail
    go_meet
    exact ⟨false, rfl, fun h => (by cases h), fun _ _ => hn0.out, I.out⟩
  ·have h3b : (kap == 3) = false := by simp [h3]
   replace h3 := Lib.hid h3
   go_wp2_with fail
   go_meet
   exact ⟨false, rfl, fun h => (by cases h), fun _ h => absurd h h3.out, I.out⟩
 case rest =>
  obtain ⟨b, rfl, hb1, hb2, I2⟩ := hcut
  clear I
  have I := Lib.hid I2
  clear I2 HL3
  cases b
  rotate_left
  ·obtain ⟨hk3, hn0⟩ := hb1.out rfl
   obtain ⟨rfl, rfl, rfl, rfl⟩ := (H3.out hk3).b3 rfl rfl hn0
   have HZ := Lib.hid (I.out.rat 0 rfl)
   go_wp2_with (first | (with_reducible refine wpList_build_zero rfl rfl ?_) | (with_reducible refine wpList_store_rat rfl (.tmp 6) (.tmp 32) rfl (b := S + 1 + 1) (s := false) (n := 0) (t := false) (d := 0) rfl rfl HZ.out ?_))
   have I2 := I.out.putRat 0 rfl false 0 false 0 rfl
   exact bodyPost_ret (v := .tuple #[ratV false 0 false 0, .int .i64 (10 : Nat)]) (results_rat rfl rfl rfl (I2.rat 0 rfl)) rfl ⟨rfl, I2.bl⟩
  replace hb2 := Lib.hid (hb2.out rfl)
  clear hb1
  go_upto_region 5 with fail
  go_cut [8] (fun s8 wx => ∃ (Kp : Nat) (A : Option Addr) (c : Nat), s8 = .pointer (some ⟨Kp, 0, none⟩) ∧ Bs w S [.num Kp zp A Lp c, .dig zp A Lp c p, .rat (S + 1 + 1) false 0 false 0, .rat (S + 1) s' n' t' d', .rat S s n t d] wx)
  case first =>
   refine rg_begin (fun V => Bs w S [.rat (S + 1 + 1) false 0 false 0, .rat (S + 1) s' n' t' d', .rat S s n t d] V) (by kernel_rfl) ((I.out.sub (.cons_cons _ (.cons_cons _ (.cons_cons _ .slnil)))).drew) (fun hS => ?_)
   refine rg_take 0 (.pointer (some ⟨S, 0, none⟩)) rfl (by kernel_rfl) (by kernel_rfl) (by kernel_rfl) (fun _ _ _ h => h) rfl (fun w _ => ?_) hS ?_
   ·go_simp
   simp only [zA, zB, zC, Act.put, zD, zE, zF]
   refine rg_take 1 (intV s n) rfl (by kernel_rfl) (by kernel_rfl) (by kernel_rfl) (fun _ _ _ h => h) rfl (fun w hSw => ld_int (.tmp 33) rfl rfl (hSw.rat 2 rfl).num) hS ?_
   simp only [zA, zB, zC, Act.put, zD, zE, zF]
   refine rg_take 3 (.pointer (some ⟨S + 1, 9, none⟩)) rfl (by kernel_rfl) (by kernel_rfl) (by kernel_rfl) (fun _ _ _ h => h) rfl (fun w _ => ?_) hS ?_
   ·go_simp
   simp only [zA, zB, zC, Act.put, zD, zE, zF]
   refine rg_take 4 (intV t' d') rfl (by kernel_rfl) (by kernel_rfl) (by kernel_rfl) (fun _ _ _ h => h) rfl (fun w hSw => ld_int (.tmp 36) rfl rfl (hSw.rat 1 rfl).den) hS ?_
   simp only [zA, zB, zC, Act.put, zD, zE, zF]
   replace hS := I.out.drew
   clear I
   generalize wc.drew = V0 at *
   refine rg_two 2 7 (by kernel_rfl) ?_ ?_
   ·refine rs_of rfl rfl (wp_callx rfl enters_num8 rfl (HN1.out _) (fun q2 V1 hV => ⟨(hS.sub (.cons_cons _ (.cons_cons _ (.cons_cons _ .slnil)))).below hV.2, ?_⟩))
    obtain ⟨A2, c2⟩ := q2
    obtain ⟨hg2, hV⟩ := hV
    replace hS := (hS.below hV).pushDig hg2
    clear hV hg2
    simp only [zA, zB, zC, Act.put, zD, zE, zF]
    refine rg_two 5 7 (by kernel_rfl) ?_ ?_
    ·refine rs_of rfl rfl (wp_callx rfl enters_num8 rfl (HN4.out _) (fun q5 V2 hV => ⟨(hS.sub (.cons _ (.cons_cons _ (.cons_cons _ (.cons_cons _ .slnil))))).below hV.2, ?_⟩))
     obtain ⟨A5, c5⟩ := q5
     obtain ⟨hg5, hV⟩ := hV
     replace hS := (hS.below hV).pushDig hg5
     clear hV hg5
     simp only [zA, zB, zC, Act.put, zD, zE, zF]
     refine rg_two 6 7 (by kernel_rfl) ?_ ?_
     ·refine rs_of rfl rfl (wp_callx rfl enters_mul7 rfl (HM1.out _ _ _ _ _ (hS.dig 1 rfl) (hS.dig 0 rfl)) (fun q6 V3 hV => ⟨(hS.sub (.cons _ (.cons _ (.cons_cons _ (.cons_cons _ (.cons_cons _ .slnil)))))).below hV.2, ?_⟩))
      obtain ⟨A6, c6⟩ := q6
      obtain ⟨hg6, hV⟩ := hV
      replace hS := (hS.below hV).pushDig hg6
      clear hV hg6
      simp only [zA, zB, zC, Act.put, zD, zE, zF]
      refine rg_one 7 (by kernel_rfl) ?_
      refine rs_of rfl rfl (wp_value (alloc_num rfl) ⟨(hS.sub (.cons _ (.cons _ (.cons _ (.cons_cons _ (.cons_cons _ (.cons_cons _ .slnil))))))).alloc _, ?_⟩)
      replace hS := hS.pushNum (k := _) rfl false none 0 0
      simp only [zA, zB, zC, Act.put, zD, zE, zF]
      generalize V3.alloc boxNZ = V4 at *
      generalize V3.heap.size = K7 at *
      refine rg_one 8 (by kernel_rfl) ?_
      have hSn := hS.putNum 0 rfl (zp) (A6) (Lp) (c6) rfl
      refine rs_of rfl rfl (stores_num (.tmp 8) (.tmp 39) rfl (t := zp) (B := A6) (M := Lp) (cb := c6) rfl rfl (hS.num 0 rfl) ⟨hSn.sub (.cons _ (.cons _ (.cons _ (.cons _ (.cons_cons _ (.cons_cons _ (.cons_cons _ .slnil))))))), ?_⟩)
      replace hS := hSn
      clear hSn
      simp only [zA, zB, zC, Act.put, zD, zE, zF]
      generalize st2 V4 K7 (zp) (A6) (Lp) (c6) = V5 at *
      refine wpAnyH_done (by kernel_rfl) ?_ _
      go_wp2_with fail
      go_meet
      replace hS := hS.sub (l' := [.num K7 zp A6 Lp c6, .dig zp A6 Lp c6 p, .rat (S + 1 + 1) false 0 false 0, .rat (S + 1) s' n' t' d', .rat S s n t d]) (.cons_cons _ (.cons_cons _ (.cons _ (.cons _ (.cons_cons _ (.cons_cons _ (.cons_cons _ .slnil)))))))
      exact ⟨_, _, _, rfl, hS⟩
     ·refine rs_of rfl rfl (wp_value (alloc_num rfl) ⟨(hS.sub (.cons _ (.cons _ (.cons_cons _ (.cons_cons _ (.cons_cons _ .slnil)))))).alloc _, ?_⟩)
      replace hS := hS.pushNum (k := _) rfl false none 0 0
      simp only [zA, zB, zC, Act.put, zD, zE, zF]
      generalize V2.alloc boxNZ = V6 at *
      generalize V2.heap.size = K7 at *
      refine rg_one 6 (by kernel_rfl) ?_
      refine rs_of rfl rfl (wp_callx rfl enters_mul7 rfl (HM1.out _ _ _ _ _ (hS.dig 2 rfl) (hS.dig 1 rfl)) (fun q6 V7 hV => ⟨(hS.sub (.cons _ (.cons _ (.cons _ (.cons_cons _ (.cons_cons _ (.cons_cons _ .slnil))))))).below hV.2, ?_⟩))
      obtain ⟨A6, c6⟩ := q6
      obtain ⟨hg6, hV⟩ := hV
      replace hS := (hS.below hV).pushDig hg6
      clear hV hg6
      simp only [zA, zB, zC, Act.put, zD, zE, zF]
      refine rg_one 8 (by kernel_rfl) ?_
      have hSn := hS.putNum 1 rfl (zp) (A6) (Lp) (c6) rfl
      refine rs_of rfl rfl (stores_num (.tmp 8) (.tmp 39) rfl (t := zp) (B := A6) (M := Lp) (cb := c6) rfl rfl (hS.num 1 rfl) ⟨hSn.sub (.cons _ (.cons _ (.cons _ (.cons _ (.cons_cons _ (.cons_cons _ (.cons_cons _ .slnil))))))), ?_⟩)
      replace hS := hSn
      clear hSn
      simp only [zA, zB, zC, Act.put, zD, zE, zF]
      generalize st2 V7 K7 (zp) (A6) (Lp) (c6) = V8 at *
      refine wpAnyH_done (by kernel_rfl) ?_ _
      go_wp2_with fail
      go_meet
      replace hS := hS.sub (l' := [.dig zp A6 Lp c6 p, .num K7 zp A6 Lp c6, .rat (S + 1 + 1) false 0 false 0, .rat (S + 1) s' n' t' d', .rat S s n t d]) (.cons_cons _ (.cons_cons _ (.cons _ (.cons _ (.cons_cons _ (.cons_cons _ (.cons_cons _ .slnil)))))))
      replace hS := hS.front 4 rfl
      replace hS := hS.front 4 rfl
      replace hS := hS.front 4 rfl
      replace hS := hS.front 3 rfl
      replace hS := hS.front 4 rfl
      exact ⟨_, _, _, rfl, hS⟩
    ·refine rs_of rfl rfl (wp_value (alloc_num rfl) ⟨(hS.sub (.cons _ (.cons_cons _ (.cons_cons _ (.cons_cons _ .slnil))))).alloc _, ?_⟩)
     replace hS := hS.pushNum (k := _) rfl false none 0 0
     simp only [zA, zB, zC, Act.put, zD, zE, zF]
     generalize V1.alloc boxNZ = V9 at *
     generalize V1.heap.size = K7 at *
     refine rg_one 5 (by kernel_rfl) ?_
     refine rs_of rfl rfl (wp_callx rfl enters_num8 rfl (HN4.out _) (fun q5 V10 hV => ⟨(hS.sub (.cons _ (.cons _ (.cons_cons _ (.cons_cons _ (.cons_cons _ .slnil)))))).below hV.2, ?_⟩))
     obtain ⟨A5, c5⟩ := q5
     obtain ⟨hg5, hV⟩ := hV
     replace hS := (hS.below hV).pushDig hg5
     clear hV hg5
     simp only [zA, zB, zC, Act.put, zD, zE, zF]
     refine rg_one 6 (by kernel_rfl) ?_
     refine rs_of rfl rfl (wp_callx rfl enters_mul7 rfl (HM1.out _ _ _ _ _ (hS.dig 2 rfl) (hS.dig 0 rfl)) (fun q6 V11 hV => ⟨(hS.sub (.cons _ (.cons _ (.cons _ (.cons_cons _ (.cons_cons _ (.cons_cons _ .slnil))))))).below hV.2, ?_⟩))
     obtain ⟨A6, c6⟩ := q6
     obtain ⟨hg6, hV⟩ := hV
     replace hS := (hS.below hV).pushDig hg6
     clear hV hg6
     simp only [zA, zB, zC, Act.put, zD, zE, zF]
     refine rg_one 8 (by kernel_rfl) ?_
     have hSn := hS.putNum 2 rfl (zp) (A6) (Lp) (c6) rfl
     refine rs_of rfl rfl (stores_num (.tmp 8) (.tmp 39) rfl (t := zp) (B := A6) (M := Lp) (cb := c6) rfl rfl (hS.num 2 rfl) ⟨hSn.sub (.cons _ (.cons _ (.cons _ (.cons _ (.cons_cons _ (.cons_cons _ (.cons_cons _ .slnil))))))), ?_⟩)
     replace hS := hSn
     clear hSn
     simp only [zA, zB, zC, Act.put, zD, zE, zF]
     generalize st2 V11 K7 (zp) (A6) (Lp) (c6) = V12 at *
     refine wpAnyH_done (by kernel_rfl) ?_ _
     go_wp2_with fail
     go_meet
     replace hS := hS.sub (l' := [.dig zp A6 Lp c6 p, .num K7 zp A6 Lp c6, .rat (S + 1 + 1) false 0 false 0, .rat (S + 1) s' n' t' d', .rat S s n t d]) (.cons_cons _ (.cons _ (.cons_cons _ (.cons _ (.cons_cons _ (.cons_cons _ (.cons_cons _ .slnil)))))))
     replace hS := hS.front 4 rfl
     replace hS := hS.front 4 rfl
     replace hS := hS.front 4 rfl
     replace hS := hS.front 3 rfl
     replace hS := hS.front 4 rfl
     exact ⟨_, _, _, rfl, hS⟩
   ·refine rs_of rfl rfl (wp_value (alloc_num rfl) ⟨(hS.sub (.cons_cons _ (.cons_cons _ (.cons_cons _ .slnil)))).alloc _, ?_⟩)
    replace hS := hS.pushNum (k := _) rfl false none 0 0
    simp only [zA, zB, zC, Act.put, zD, zE, zF]
    generalize V0.alloc boxNZ = V13 at *
    generalize V0.heap.size = K7 at *
    refine rg_one 2 (by kernel_rfl) ?_
    refine rs_of rfl rfl (wp_callx rfl enters_num8 rfl (HN1.out _) (fun q2 V14 hV => ⟨(hS.sub (.cons _ (.cons_cons _ (.cons_cons _ (.cons_cons _ .slnil))))).below hV.2, ?_⟩))
    obtain ⟨A2, c2⟩ := q2
    obtain ⟨hg2, hV⟩ := hV
    replace hS := (hS.below hV).pushDig hg2
    clear hV hg2
    simp only [zA, zB, zC, Act.put, zD, zE, zF]
    refine rg_one 5 (by kernel_rfl) ?_
    refine rs_of rfl rfl (wp_callx rfl enters_num8 rfl (HN4.out _) (fun q5 V15 hV => ⟨(hS.sub (.cons _ (.cons _ (.cons_cons _ (.cons_cons _ (.cons_cons _ .slnil)))))).below hV.2, ?_⟩))
    obtain ⟨A5, c5⟩ := q5
    obtain ⟨hg5, hV⟩ := hV
    replace hS := (hS.below hV).pushDig hg5
    clear hV hg5
    simp only [zA, zB, zC, Act.put, zD, zE, zF]
    refine rg_one 6 (by kernel_rfl) ?_
    refine rs_of rfl rfl (wp_callx rfl enters_mul7 rfl (HM1.out _ _ _ _ _ (hS.dig 1 rfl) (hS.dig 0 rfl)) (fun q6 V16 hV => ⟨(hS.sub (.cons _ (.cons _ (.cons _ (.cons_cons _ (.cons_cons _ (.cons_cons _ .slnil))))))).below hV.2, ?_⟩))
    obtain ⟨A6, c6⟩ := q6
    obtain ⟨hg6, hV⟩ := hV
    replace hS := (hS.below hV).pushDig hg6
    clear hV hg6
    simp only [zA, zB, zC, Act.put, zD, zE, zF]
    refine rg_one 8 (by kernel_rfl) ?_
    have hSn := hS.putNum 3 rfl (zp) (A6) (Lp) (c6) rfl
    refine rs_of rfl rfl (stores_num (.tmp 8) (.tmp 39) rfl (t := zp) (B := A6) (M := Lp) (cb := c6) rfl rfl (hS.num 3 rfl) ⟨hSn.sub (.cons _ (.cons _ (.cons _ (.cons _ (.cons_cons _ (.cons_cons _ (.cons_cons _ .slnil))))))), ?_⟩)
    replace hS := hSn
    clear hSn
    simp only [zA, zB, zC, Act.put, zD, zE, zF]
    generalize st2 V16 K7 (zp) (A6) (Lp) (c6) = V17 at *
    refine wpAnyH_done (by kernel_rfl) ?_ _
    go_wp2_with fail
    go_meet
    replace hS := hS.sub (l' := [.dig zp A6 Lp c6 p, .num K7 zp A6 Lp c6, .rat (S + 1 + 1) false 0 false 0, .rat (S + 1) s' n' t' d', .rat S s n t d]) (.cons_cons _ (.cons _ (.cons _ (.cons_cons _ (.cons_cons _ (.cons_cons _ (.cons_cons _ .slnil)))))))
    replace hS := hS.front 4 rfl
    replace hS := hS.front 4 rfl
    replace hS := hS.front 4 rfl
    replace hS := hS.front 3 rfl
    replace hS := hS.front 4 rfl
    exact ⟨_, _, _, rfl, hS⟩
  case rest =>
   obtain ⟨Kp, Ap, cp, rfl, I2⟩ := hcut
   clear I
   have I := Lib.hid I2
   clear I2
   go_upto_region 6 with fail
   go_cut [9] (fun s9 wx => ∃ (Kq : Nat) (A : Option Addr) (c : Nat), s9 = .pointer (some ⟨Kq, 0, none⟩) ∧ Bs w S [.num Kq zq A Lq c, .dig zq A Lq c q, .num Kp zp Ap Lp cp, .dig zp Ap Lp cp p, .rat (S + 1 + 1) false 0 false 0, .rat (S + 1) s' n' t' d', .rat S s n t d] wx)
   case first =>
    refine rg_begin (fun V => Bs w S [.num Kp zp Ap Lp cp, .dig zp Ap Lp cp p, .rat (S + 1 + 1) false 0 false 0, .rat (S + 1) s' n' t' d', .rat S s n t d] V) (by kernel_rfl) ((I.out.sub (.cons_cons _ (.cons_cons _ (.cons_cons _ (.cons_cons _ (.cons_cons _ .slnil)))))).drew) (fun hS => ?_)
    refine rg_take 0 (.pointer (some ⟨S + 1, 0, none⟩)) rfl (by kernel_rfl) (by kernel_rfl) (by kernel_rfl) (fun _ _ _ h => h) rfl (fun w _ => ?_) hS ?_
    ·go_simp
    simp only [zA, zB, zC, Act.put, zD, zE, zF]
    refine rg_take 1 (intV s' n') rfl (by kernel_rfl) (by kernel_rfl) (by kernel_rfl) (fun _ _ _ h => h) rfl (fun w hSw => ld_int (.tmp 40) rfl rfl (hSw.rat 3 rfl).num) hS ?_
    simp only [zA, zB, zC, Act.put, zD, zE, zF]
    refine rg_take 3 (.pointer (some ⟨S, 9, none⟩)) rfl (by kernel_rfl) (by kernel_rfl) (by kernel_rfl) (fun _ _ _ h => h) rfl (fun w _ => ?_) hS ?_
    ·go_simp
    simp only [zA, zB, zC, Act.put, zD, zE, zF]
    refine rg_take 4 (intV t d) rfl (by kernel_rfl) (by kernel_rfl) (by kernel_rfl) (fun _ _ _ h => h) rfl (fun w hSw => ld_int (.tmp 43) rfl rfl (hSw.rat 4 rfl).den) hS ?_
    simp only [zA, zB, zC, Act.put, zD, zE, zF]
    replace hS := I.out.drew
    clear I
    generalize wc.drew = V0 at *
    refine rg_two 2 7 (by kernel_rfl) ?_ ?_
    ·refine rs_of rfl rfl (wp_callx rfl enters_num8 rfl (HN3.out _) (fun q2 V1 hV => ⟨(hS.sub (.cons_cons _ (.cons_cons _ (.cons_cons _ (.cons_cons _ (.cons_cons _ .slnil)))))).below hV.2, ?_⟩))
     obtain ⟨A2, c2⟩ := q2
     obtain ⟨hg2, hV⟩ := hV
     replace hS := (hS.below hV).pushDig hg2
     clear hV hg2
     simp only [zA, zB, zC, Act.put, zD, zE, zF]
     refine rg_two 5 7 (by kernel_rfl) ?_ ?_
     ·refine rs_of rfl rfl (wp_callx rfl enters_num8 rfl (HN2.out _) (fun q5 V2 hV => ⟨(hS.sub (.cons _ (.cons_cons _ (.cons_cons _ (.cons_cons _ (.cons_cons _ (.cons_cons _ .slnil))))))).below hV.2, ?_⟩))
      obtain ⟨A5, c5⟩ := q5
      obtain ⟨hg5, hV⟩ := hV
      replace hS := (hS.below hV).pushDig hg5
      clear hV hg5
      simp only [zA, zB, zC, Act.put, zD, zE, zF]
      refine rg_two 6 7 (by kernel_rfl) ?_ ?_
      ·refine rs_of rfl rfl (wp_callx rfl enters_mul7 rfl (HM2.out _ _ _ _ _ (hS.dig 1 rfl) (hS.dig 0 rfl)) (fun q6 V3 hV => ⟨(hS.sub (.cons _ (.cons _ (.cons_cons _ (.cons_cons _ (.cons_cons _ (.cons_cons _ (.cons_cons _ .slnil)))))))).below hV.2, ?_⟩))
       obtain ⟨A6, c6⟩ := q6
       obtain ⟨hg6, hV⟩ := hV
       replace hS := (hS.below hV).pushDig hg6
       clear hV hg6
       simp only [zA, zB, zC, Act.put, zD, zE, zF]
       refine rg_one 7 (by kernel_rfl) ?_
       refine rs_of rfl rfl (wp_value (alloc_num rfl) ⟨(hS.sub (.cons _ (.cons _ (.cons _ (.cons_cons _ (.cons_cons _ (.cons_cons _ (.cons_cons _ (.cons_cons _ .slnil))))))))).alloc _, ?_⟩)
       replace hS := hS.pushNum (k := _) rfl false none 0 0
       simp only [zA, zB, zC, Act.put, zD, zE, zF]
       generalize V3.alloc boxNZ = V4 at *
       generalize V3.heap.size = K7 at *
       refine rg_one 8 (by kernel_rfl) ?_
       have hSn := hS.putNum 0 rfl (zq) (A6) (Lq) (c6) rfl
       refine rs_of rfl rfl (stores_num (.tmp 9) (.tmp 46) rfl (t := zq) (B := A6) (M := Lq) (cb := c6) rfl rfl (hS.num 0 rfl) ⟨hSn.sub (.cons _ (.cons _ (.cons _ (.cons _ (.cons_cons _ (.cons_cons _ (.cons_cons _ (.cons_cons _ (.cons_cons _ .slnil))))))))), ?_⟩)
       replace hS := hSn
       clear hSn
       simp only [zA, zB, zC, Act.put, zD, zE, zF]
       generalize st2 V4 K7 (zq) (A6) (Lq) (c6) = V5 at *
       refine wpAnyH_done (by kernel_rfl) ?_ _
       go_wp2_with fail
       go_meet
       replace hS := hS.sub (l' := [.num K7 zq A6 Lq c6, .dig zq A6 Lq c6 q, .num Kp zp Ap Lp cp, .dig zp Ap Lp cp p, .rat (S + 1 + 1) false 0 false 0, .rat (S + 1) s' n' t' d', .rat S s n t d]) (.cons_cons _ (.cons_cons _ (.cons _ (.cons _ (.cons_cons _ (.cons_cons _ (.cons_cons _ (.cons_cons _ (.cons_cons _ .slnil)))))))))
       exact ⟨_, _, _, rfl, hS⟩
      ·refine rs_of rfl rfl (wp_value (alloc_num rfl) ⟨(hS.sub (.cons _ (.cons _ (.cons_cons _ (.cons_cons _ (.cons_cons _ (.cons_cons _ (.cons_cons _ .slnil)))))))).alloc _, ?_⟩)
       replace hS := hS.pushNum (k := _) rfl false none 0 0
       simp only [zA, zB, zC, Act.put, zD, zE, zF]
       generalize V2.alloc boxNZ = V6 at *
       generalize V2.heap.size = K7 at *
       refine rg_one 6 (by kernel_rfl) ?_
       refine rs_of rfl rfl (wp_callx rfl enters_mul7 rfl (HM2.out _ _ _ _ _ (hS.dig 2 rfl) (hS.dig 1 rfl)) (fun q6 V7 hV => ⟨(hS.sub (.cons _ (.cons _ (.cons _ (.cons_cons _ (.cons_cons _ (.cons_cons _ (.cons_cons _ (.cons_cons _ .slnil))))))))).below hV.2, ?_⟩))
       obtain ⟨A6, c6⟩ := q6
       obtain ⟨hg6, hV⟩ := hV
       replace hS := (hS.below hV).pushDig hg6
       clear hV hg6
       simp only [zA, zB, zC, Act.put, zD, zE, zF]
       refine rg_one 8 (by kernel_rfl) ?_
       have hSn := hS.putNum 1 rfl (zq) (A6) (Lq) (c6) rfl
       refine rs_of rfl rfl (stores_num (.tmp 9) (.tmp 46) rfl (t := zq) (B := A6) (M := Lq) (cb := c6) rfl rfl (hS.num 1 rfl) ⟨hSn.sub (.cons _ (.cons _ (.cons _ (.cons _ (.cons_cons _ (.cons_cons _ (.cons_cons _ (.cons_cons _ (.cons_cons _ .slnil))))))))), ?_⟩)
       replace hS := hSn
       clear hSn
       simp only [zA, zB, zC, Act.put, zD, zE, zF]
       generalize st2 V7 K7 (zq) (A6) (Lq) (c6) = V8 at *
       refine wpAnyH_done (by kernel_rfl) ?_ _
       go_wp2_with fail
       go_meet
       replace hS := hS.sub (l' := [.dig zq A6 Lq c6 q, .num K7 zq A6 Lq c6, .num Kp zp Ap Lp cp, .dig zp Ap Lp cp p, .rat (S + 1 + 1) false 0 false 0, .rat (S + 1) s' n' t' d', .rat S s n t d]) (.cons_cons _ (.cons_cons _ (.cons _ (.cons _ (.cons_cons _ (.cons_cons _ (.cons_cons _ (.cons_cons _ (.cons_cons _ .slnil)))))))))
       replace hS := hS.front 6 rfl
       replace hS := hS.front 6 rfl
       replace hS := hS.front 6 rfl
       replace hS := hS.front 6 rfl
       replace hS := hS.front 6 rfl
       replace hS := hS.front 5 rfl
       replace hS := hS.front 6 rfl
       exact ⟨_, _, _, rfl, hS⟩
     ·refine rs_of rfl rfl (wp_value (alloc_num rfl) ⟨(hS.sub (.cons _ (.cons_cons _ (.cons_cons _ (.cons_cons _ (.cons_cons _ (.cons_cons _ .slnil))))))).alloc _, ?_⟩)
      replace hS := hS.pushNum (k := _) rfl false none 0 0
      simp only [zA, zB, zC, Act.put, zD, zE, zF]
      generalize V1.alloc boxNZ = V9 at *
      generalize V1.heap.size = K7 at *
      refine rg_one 5 (by kernel_rfl) ?_
      refine rs_of rfl rfl (wp_callx rfl enters_num8 rfl (HN2.out _) (fun q5 V10 hV => ⟨(hS.sub (.cons _ (.cons _ (.cons_cons _ (.cons_cons _ (.cons_cons _ (.cons_cons _ (.cons_cons _ .slnil)))))))).below hV.2, ?_⟩))
      obtain ⟨A5, c5⟩ := q5
      obtain ⟨hg5, hV⟩ := hV
      replace hS := (hS.below hV).pushDig hg5
      clear hV hg5
      simp only [zA, zB, zC, Act.put, zD, zE, zF]
      refine rg_one 6 (by kernel_rfl) ?_
      refine rs_of rfl rfl (wp_callx rfl enters_mul7 rfl (HM2.out _ _ _ _ _ (hS.dig 2 rfl) (hS.dig 0 rfl)) (fun q6 V11 hV => ⟨(hS.sub (.cons _ (.cons _ (.cons _ (.cons_cons _ (.cons_cons _ (.cons_cons _ (.cons_cons _ (.cons_cons _ .slnil))))))))).below hV.2, ?_⟩))
      obtain ⟨A6, c6⟩ := q6
      obtain ⟨hg6, hV⟩ := hV
      replace hS := (hS.below hV).pushDig hg6
      clear hV hg6
      simp only [zA, zB, zC, Act.put, zD, zE, zF]
      refine rg_one 8 (by kernel_rfl) ?_
      have hSn := hS.putNum 2 rfl (zq) (A6) (Lq) (c6) rfl
      refine rs_of rfl rfl (stores_num (.tmp 9) (.tmp 46) rfl (t := zq) (B := A6) (M := Lq) (cb := c6) rfl rfl (hS.num 2 rfl) ⟨hSn.sub (.cons _ (.cons _ (.cons _ (.cons _ (.cons_cons _ (.cons_cons _ (.cons_cons _ (.cons_cons _ (.cons_cons _ .slnil))))))))), ?_⟩)
      replace hS := hSn
      clear hSn
      simp only [zA, zB, zC, Act.put, zD, zE, zF]
      generalize st2 V11 K7 (zq) (A6) (Lq) (c6) = V12 at *
      refine wpAnyH_done (by kernel_rfl) ?_ _
      go_wp2_with fail
      go_meet
      replace hS := hS.sub (l' := [.dig zq A6 Lq c6 q, .num K7 zq A6 Lq c6, .num Kp zp Ap Lp cp, .dig zp Ap Lp cp p, .rat (S + 1 + 1) false 0 false 0, .rat (S + 1) s' n' t' d', .rat S s n t d]) (.cons_cons _ (.cons _ (.cons_cons _ (.cons _ (.cons_cons _ (.cons_cons _ (.cons_cons _ (.cons_cons _ (.cons_cons _ .slnil)))))))))
      replace hS := hS.front 6 rfl
      replace hS := hS.front 6 rfl
      replace hS := hS.front 6 rfl
      replace hS := hS.front 6 rfl
      replace hS := hS.front 6 rfl
      replace hS := hS.front 5 rfl
      replace hS := hS.front 6 rfl
      exact ⟨_, _, _, rfl, hS⟩
    ·refine rs_of rfl rfl (wp_value (alloc_num rfl) ⟨(hS.sub (.cons_cons _ (.cons_cons _ (.cons_cons _ (.cons_cons _ (.cons_cons _ .slnil)))))).alloc _, ?_⟩)
     replace hS := hS.pushNum (k := _) rfl false none 0 0
     simp only [zA, zB, zC, Act.put, zD, zE, zF]
     generalize V0.alloc boxNZ = V13 at *
     generalize V0.heap.size = K7 at *
     refine rg_one 2 (by kernel_rfl) ?_
     refine rs_of rfl rfl (wp_callx rfl enters_num8 rfl (HN3.out _) (fun q2 V14 hV => ⟨(hS.sub (.cons _ (.cons_cons _ (.cons_cons _ (.cons_cons _ (.cons_cons _ (.cons_cons _ .slnil))))))).below hV.2, ?_⟩))
     obtain ⟨A2, c2⟩ := q2
     obtain ⟨hg2, hV⟩ := hV
     replace hS := (hS.below hV).pushDig hg2
     clear hV hg2
     simp only [zA, zB, zC, Act.put, zD, zE, zF]
     refine rg_one 5 (by kernel_rfl) ?_
     refine rs_of rfl rfl (wp_callx rfl enters_num8 rfl (HN2.out _) (fun q5 V15 hV => ⟨(hS.sub (.cons _ (.cons _ (.cons_cons _ (.cons_cons _ (.cons_cons _ (.cons_cons _ (.cons_cons _ .slnil)))))))).below hV.2, ?_⟩))
     obtain ⟨A5, c5⟩ := q5
     obtain ⟨hg5, hV⟩ := hV
     replace hS := (hS.below hV).pushDig hg5
     clear hV hg5
     simp only [zA, zB, zC, Act.put, zD, zE, zF]
     refine rg_one 6 (by kernel_rfl) ?_
     refine rs_of rfl rfl (wp_callx rfl enters_mul7 rfl (HM2.out _ _ _ _ _ (hS.dig 1 rfl) (hS.dig 0 rfl)) (fun q6 V16 hV => ⟨(hS.sub (.cons _ (.cons _ (.cons _ (.cons_cons _ (.cons_cons _ (.cons_cons _ (.cons_cons _ (.cons_cons _ .slnil))))))))).below hV.2, ?_⟩))
     obtain ⟨A6, c6⟩ := q6
     obtain ⟨hg6, hV⟩ := hV
     replace hS := (hS.below hV).pushDig hg6
     clear hV hg6
     simp only [zA, zB, zC, Act.put, zD, zE, zF]
     refine rg_one 8 (by kernel_rfl) ?_
     have hSn := hS.putNum 3 rfl (zq) (A6) (Lq) (c6) rfl
     refine rs_of rfl rfl (stores_num (.tmp 9) (.tmp 46) rfl (t := zq) (B := A6) (M := Lq) (cb := c6) rfl rfl (hS.num 3 rfl) ⟨hSn.sub (.cons _ (.cons _ (.cons _ (.cons _ (.cons_cons _ (.cons_cons _ (.cons_cons _ (.cons_cons _ (.cons_cons _ .slnil))))))))), ?_⟩)
     replace hS := hSn
     clear hSn
     simp only [zA, zB, zC, Act.put, zD, zE, zF]
     generalize st2 V16 K7 (zq) (A6) (Lq) (c6) = V17 at *
     refine wpAnyH_done (by kernel_rfl) ?_ _
     go_wp2_with fail
     go_meet
     replace hS := hS.sub (l' := [.dig zq A6 Lq c6 q, .num K7 zq A6 Lq c6, .num Kp zp Ap Lp cp, .dig zp Ap Lp cp p, .rat (S + 1 + 1) false 0 false 0, .rat (S + 1) s' n' t' d', .rat S s n t d]) (.cons_cons _ (.cons _ (.cons _ (.cons_cons _ (.cons_cons _ (.cons_cons _ (.cons_cons _ (.cons_cons _ (.cons_cons _ .slnil)))))))))
     replace hS := hS.front 6 rfl
     replace hS := hS.front 6 rfl
     replace hS := hS.front 6 rfl
     replace hS := hS.front 6 rfl
     replace hS := hS.front 6 rfl
     replace hS := hS.front 5 rfl
     replace hS := hS.front 6 rfl
     exact ⟨_, _, _, rfl, hS⟩
   case rest =>
    obtain ⟨Kq, Aq, cq, rfl, I2⟩ := hcut
    clear I
    have I := Lib.hid I2
    clear I2
    go_upto_region 7 with fail
    go_cut [10, 11] (fun s10 s11 wx => ∃ (Kn Kd : Nat) (A : Option Addr) (c : Nat), s10 = .pointer (some ⟨Kn, 0, none⟩) ∧ s11 = .pointer (some ⟨Kd, 0, none⟩) ∧ Bs w S [.num Kn zp Ap Lp cp, .num Kd zx A Lx c, .dig zx A Lx c x, .num Kq zq Aq Lq cq, .dig zq Aq Lq cq q, .num Kp zp Ap Lp cp, .dig zp Ap Lp cp p, .rat (S + 1 + 1) false 0 false 0, .rat (S + 1) s' n' t' d', .rat S s n t d] wx)
    case first =>
     refine rg_begin (fun V => Bs w S [.num Kq zq Aq Lq cq, .dig zq Aq Lq cq q, .num Kp zp Ap Lp cp, .dig zp Ap Lp cp p, .rat (S + 1 + 1) false 0 false 0, .rat (S + 1) s' n' t' d', .rat S s n t d] V) (by kernel_rfl) I.out.drew (fun hS => ?_)
     refine rg_take 0 (.agg #[.bool zp, .slice Ap Lp cp]) rfl (by kernel_rfl) (by kernel_rfl) (by kernel_rfl) (fun _ _ _ h => h) rfl (fun w hSw => ld_num (.tmp 8) rfl rfl (hSw.num 2 rfl)) hS ?_
     simp only [zA, zB, zC, Act.put, zD, zE, zF]
     refine rg_take 1 (.pointer (some ⟨S, 9, none⟩)) rfl (by kernel_rfl) (by kernel_rfl) (by kernel_rfl) (fun _ _ _ h => h) rfl (fun w _ => ?_) hS ?_
     ·go_simp
     simp only [zA, zB, zC, Act.put, zD, zE, zF]
     refine rg_take 2 (intV t d) rfl (by kernel_rfl) (by kernel_rfl) (by kernel_rfl) (fun _ _ _ h => h) rfl (fun w hSw => ld_int (.tmp 48) rfl rfl (hSw.rat 6 rfl).den) hS ?_
     simp only [zA, zB, zC, Act.put, zD, zE, zF]
     refine rg_take 4 (.pointer (some ⟨S + 1, 9, none⟩)) rfl (by kernel_rfl) (by kernel_rfl) (by kernel_rfl) (fun _ _ _ h => h) rfl (fun w _ => ?_) hS ?_
     ·go_simp
     simp only [zA, zB, zC, Act.put, zD, zE, zF]
     refine rg_take 5 (intV t' d') rfl (by kernel_rfl) (by kernel_rfl) (by kernel_rfl) (fun _ _ _ h => h) rfl (fun w hSw => ld_int (.tmp 51) rfl rfl (hSw.rat 5 rfl).den) hS ?_
     simp only [zA, zB, zC, Act.put, zD, zE, zF]
     clear I
     generalize wc.drew = V0 at *
     refine rg_three 3 8 9 (by kernel_rfl) ?_ ?_ ?_
     ·refine rs_of rfl rfl (wp_callx rfl enters_num8 rfl (HN2.out _) (fun q3 V1 hV => ⟨(hS.sub (.cons_cons _ (.cons_cons _ (.cons_cons _ (.cons_cons _ (.cons_cons _ (.cons_cons _ (.cons_cons _ .slnil)))))))).below hV.2, ?_⟩))
      obtain ⟨A3, c3⟩ := q3
      obtain ⟨hg3, hV⟩ := hV
      replace hS := (hS.below hV).pushDig hg3
      clear hV hg3
      simp only [zA, zB, zC, Act.put, zD, zE, zF]
      refine rg_three 6 8 9 (by kernel_rfl) ?_ ?_ ?_
      ·refine rs_of rfl rfl (wp_callx rfl enters_num8 rfl (HN4.out _) (fun q6 V2 hV => ⟨(hS.sub (.cons _ (.cons_cons _ (.cons_cons _ (.cons_cons _ (.cons_cons _ (.cons_cons _ (.cons_cons _ (.cons_cons _ .slnil))))))))).below hV.2, ?_⟩))
       obtain ⟨A6, c6⟩ := q6
       obtain ⟨hg6, hV⟩ := hV
       replace hS := (hS.below hV).pushDig hg6
       clear hV hg6
       simp only [zA, zB, zC, Act.put, zD, zE, zF]
       refine rg_three 7 8 9 (by kernel_rfl) ?_ ?_ ?_
       ·refine rs_of rfl rfl (wp_callx rfl enters_mul7 rfl (HM3.out _ _ _ _ _ (hS.dig 1 rfl) (hS.dig 0 rfl)) (fun q7 V3 hV => ⟨(hS.sub (.cons _ (.cons _ (.cons_cons _ (.cons_cons _ (.cons_cons _ (.cons_cons _ (.cons_cons _ (.cons_cons _ (.cons_cons _ .slnil)))))))))).below hV.2, ?_⟩))
        obtain ⟨A7, c7⟩ := q7
        obtain ⟨hg7, hV⟩ := hV
        replace hS := (hS.below hV).pushDig hg7
        clear hV hg7
        simp only [zA, zB, zC, Act.put, zD, zE, zF]
        refine rg_two 8 9 (by kernel_rfl) ?_ ?_
        ·refine rs_of rfl rfl (wp_value (alloc_num rfl) ⟨(hS.sub (.cons _ (.cons _ (.cons _ (.cons_cons _ (.cons_cons _ (.cons_cons _ (.cons_cons _ (.cons_cons _ (.cons_cons _ (.cons_cons _ .slnil))))))))))).alloc _, ?_⟩)
         replace hS := hS.pushNum (k := _) rfl false none 0 0
         simp only [zA, zB, zC, Act.put, zD, zE, zF]
         generalize V3.alloc boxNZ = V4 at *
         generalize V3.heap.size = K8 at *
         refine rg_one 9 (by kernel_rfl) ?_
         refine rs_of rfl rfl (wp_value (alloc_num rfl) ⟨(hS.sub (.cons _ (.cons _ (.cons _ (.cons _ (.cons_cons _ (.cons_cons _ (.cons_cons _ (.cons_cons _ (.cons_cons _ (.cons_cons _ (.cons_cons _ .slnil)))))))))))).alloc _, ?_⟩)
         replace hS := hS.pushNum (k := _) rfl false none 0 0
         simp only [zA, zB, zC, Act.put, zD, zE, zF]
         generalize V4.alloc boxNZ = V5 at *
         generalize V4.heap.size = K9 at *
         refine rg_one 10 (by kernel_rfl) ?_
         have hSn := hS.putNum 1 rfl (zp) (Ap) (Lp) (cp) rfl
         refine rs_of rfl rfl (stores_num (.tmp 10) (.tmp 47) rfl (t := zp) (B := Ap) (M := Lp) (cb := cp) rfl rfl (hS.num 1 rfl) ⟨hSn.sub (.cons _ (.cons _ (.cons _ (.cons _ (.cons _ (.cons_cons _ (.cons_cons _ (.cons_cons _ (.cons_cons _ (.cons_cons _ (.cons_cons _ (.cons_cons _ .slnil)))))))))))), ?_⟩)
         replace hS := hSn
         clear hSn
         simp only [zA, zB, zC, Act.put, zD, zE, zF]
         generalize st2 V5 K8 (zp) (Ap) (Lp) (cp) = V6 at *
         refine rg_one 11 (by kernel_rfl) ?_
         have hSn := hS.putNum 0 rfl (zx) (A7) (Lx) (c7) rfl
         refine rs_of rfl rfl (stores_num (.tmp 11) (.tmp 54) rfl (t := zx) (B := A7) (M := Lx) (cb := c7) rfl rfl (hS.num 0 rfl) ⟨hSn.sub (.cons _ (.cons _ (.cons _ (.cons _ (.cons _ (.cons_cons _ (.cons_cons _ (.cons_cons _ (.cons_cons _ (.cons_cons _ (.cons_cons _ (.cons_cons _ .slnil)))))))))))), ?_⟩)
         replace hS := hSn
         clear hSn
         simp only [zA, zB, zC, Act.put, zD, zE, zF]
         generalize st2 V6 K9 (zx) (A7) (Lx) (c7) = V7 at *
         refine wpAnyH_done (by kernel_rfl) ?_ _
         go_wp2_with fail
         go_meet
         replace hS := hS.sub (l' := [.num K9 zx A7 Lx c7, .num K8 zp Ap Lp cp, .dig zx A7 Lx c7 x, .num Kq zq Aq Lq cq, .dig zq Aq Lq cq q, .num Kp zp Ap Lp cp, .dig zp Ap Lp cp p, .rat (S + 1 + 1) false 0 false 0, .rat (S + 1) s' n' t' d', .rat S s n t d]) (.cons_cons _ (.cons_cons _ (.cons_cons _ (.cons _ (.cons _ (.cons_cons _ (.cons_cons _ (.cons_cons _ (.cons_cons _ (.cons_cons _ (.cons_cons _ (.cons_cons _ .slnil))))))))))))
         replace hS := hS.front 9 rfl
         replace hS := hS.front 9 rfl
         replace hS := hS.front 9 rfl
         replace hS := hS.front 9 rfl
         replace hS := hS.front 9 rfl
         replace hS := hS.front 9 rfl
         replace hS := hS.front 9 rfl
         replace hS := hS.front 9 rfl
         replace hS := hS.front 8 rfl
         replace hS := hS.front 9 rfl
         exact ⟨_, _, _, _, rfl, rfl, hS⟩
        ·refine rs_of rfl rfl (wp_value (alloc_num rfl) ⟨(hS.sub (.cons _ (.cons _ (.cons _ (.cons_cons _ (.cons_cons _ (.cons_cons _ (.cons_cons _ (.cons_cons _ (.cons_cons _ (.cons_cons _ .slnil))))))))))).alloc _, ?_⟩)
         replace hS := hS.pushNum (k := _) rfl false none 0 0
         simp only [zA, zB, zC, Act.put, zD, zE, zF]
         generalize V3.alloc boxNZ = V8 at *
         generalize V3.heap.size = K9 at *
         refine rg_one 8 (by kernel_rfl) ?_
         refine rs_of rfl rfl (wp_value (alloc_num rfl) ⟨(hS.sub (.cons _ (.cons _ (.cons _ (.cons _ (.cons_cons _ (.cons_cons _ (.cons_cons _ (.cons_cons _ (.cons_cons _ (.cons_cons _ (.cons_cons _ .slnil)))))))))))).alloc _, ?_⟩)
         replace hS := hS.pushNum (k := _) rfl false none 0 0
         simp only [zA, zB, zC, Act.put, zD, zE, zF]
         generalize V8.alloc boxNZ = V9 at *
         generalize V8.heap.size = K8 at *
         refine rg_one 10 (by kernel_rfl) ?_
         have hSn := hS.putNum 0 rfl (zp) (Ap) (Lp) (cp) rfl
         refine rs_of rfl rfl (stores_num (.tmp 10) (.tmp 47) rfl (t := zp) (B := Ap) (M := Lp) (cb := cp) rfl rfl (hS.num 0 rfl) ⟨hSn.sub (.cons _ (.cons _ (.cons _ (.cons _ (.cons _ (.cons_cons _ (.cons_cons _ (.cons_cons _ (.cons_cons _ (.cons_cons _ (.cons_cons _ (.cons_cons _ .slnil)))))))))))), ?_⟩)
         replace hS := hSn
         clear hSn
         simp only [zA, zB, zC, Act.put, zD, zE, zF]
         generalize st2 V9 K8 (zp) (Ap) (Lp) (cp) = V10 at *
         refine rg_one 11 (by kernel_rfl) ?_
         have hSn := hS.putNum 1 rfl (zx) (A7) (Lx) (c7) rfl
         refine rs_of rfl rfl (stores_num (.tmp 11) (.tmp 54) rfl (t := zx) (B := A7) (M := Lx) (cb := c7) rfl rfl (hS.num 1 rfl) ⟨hSn.sub (.cons _ (.cons _ (.cons _ (.cons _ (.cons _ (.cons_cons _ (.cons_cons _ (.cons_cons _ (.cons_cons _ (.cons_cons _ (.cons_cons _ (.cons_cons _ .slnil)))))))))))), ?_⟩)
         replace hS := hSn
         clear hSn
         simp only [zA, zB, zC, Act.put, zD, zE, zF]
         generalize st2 V10 K9 (zx) (A7) (Lx) (c7) = V11 at *
         refine wpAnyH_done (by kernel_rfl) ?_ _
         go_wp2_with fail
         go_meet
         replace hS := hS.sub (l' := [.num K8 zp Ap Lp cp, .num K9 zx A7 Lx c7, .dig zx A7 Lx c7 x, .num Kq zq Aq Lq cq, .dig zq Aq Lq cq q, .num Kp zp Ap Lp cp, .dig zp Ap Lp cp p, .rat (S + 1 + 1) false 0 false 0, .rat (S + 1) s' n' t' d', .rat S s n t d]) (.cons_cons _ (.cons_cons _ (.cons_cons _ (.cons _ (.cons _ (.cons_cons _ (.cons_cons _ (.cons_cons _ (.cons_cons _ (.cons_cons _ (.cons_cons _ (.cons_cons _ .slnil))))))))))))
         exact ⟨_, _, _, _, rfl, rfl, hS⟩
       ·refine rs_of rfl rfl (wp_value (alloc_num rfl) ⟨(hS.sub (.cons _ (.cons _ (.cons_cons _ (.cons_cons _ (.cons_cons _ (.cons_cons _ (.cons_cons _ (.cons_cons _ (.cons_cons _ .slnil)))))))))).alloc _, ?_⟩)
        replace hS := hS.pushNum (k := _) rfl false none 0 0
        simp only [zA, zB, zC, Act.put, zD, zE, zF]
        generalize V2.alloc boxNZ = V12 at *
        generalize V2.heap.size = K8 at *
        refine rg_two 7 9 (by kernel_rfl) ?_ ?_
        ·refine rs_of rfl rfl (wp_callx rfl enters_mul7 rfl (HM3.out _ _ _ _ _ (hS.dig 2 rfl) (hS.dig 1 rfl)) (fun q7 V13 hV => ⟨(hS.sub (.cons _ (.cons _ (.cons _ (.cons_cons _ (.cons_cons _ (.cons_cons _ (.cons_cons _ (.cons_cons _ (.cons_cons _ (.cons_cons _ .slnil))))))))))).below hV.2, ?_⟩))
         obtain ⟨A7, c7⟩ := q7
         obtain ⟨hg7, hV⟩ := hV
         replace hS := (hS.below hV).pushDig hg7
         clear hV hg7
         simp only [zA, zB, zC, Act.put, zD, zE, zF]
         refine rg_one 9 (by kernel_rfl) ?_
         refine rs_of rfl rfl (wp_value (alloc_num rfl) ⟨(hS.sub (.cons _ (.cons _ (.cons _ (.cons _ (.cons_cons _ (.cons_cons _ (.cons_cons _ (.cons_cons _ (.cons_cons _ (.cons_cons _ (.cons_cons _ .slnil)))))))))))).alloc _, ?_⟩)
         replace hS := hS.pushNum (k := _) rfl false none 0 0
         simp only [zA, zB, zC, Act.put, zD, zE, zF]
         generalize V13.alloc boxNZ = V14 at *
         generalize V13.heap.size = K9 at *
         refine rg_one 10 (by kernel_rfl) ?_
         have hSn := hS.putNum 2 rfl (zp) (Ap) (Lp) (cp) rfl
         refine rs_of rfl rfl (stores_num (.tmp 10) (.tmp 47) rfl (t := zp) (B := Ap) (M := Lp) (cb := cp) rfl rfl (hS.num 2 rfl) ⟨hSn.sub (.cons _ (.cons _ (.cons _ (.cons _ (.cons _ (.cons_cons _ (.cons_cons _ (.cons_cons _ (.cons_cons _ (.cons_cons _ (.cons_cons _ (.cons_cons _ .slnil)))))))))))), ?_⟩)
         replace hS := hSn
         clear hSn
         simp only [zA, zB, zC, Act.put, zD, zE, zF]
         generalize st2 V14 K8 (zp) (Ap) (Lp) (cp) = V15 at *
         refine rg_one 11 (by kernel_rfl) ?_
         have hSn := hS.putNum 0 rfl (zx) (A7) (Lx) (c7) rfl
         refine rs_of rfl rfl (stores_num (.tmp 11) (.tmp 54) rfl (t := zx) (B := A7) (M := Lx) (cb := c7) rfl rfl (hS.num 0 rfl) ⟨hSn.sub (.cons _ (.cons _ (.cons _ (.cons _ (.cons _ (.cons_cons _ (.cons_cons _ (.cons_cons _ (.cons_cons _ (.cons_cons _ (.cons_cons _ (.cons_cons _ .slnil)))))))))))), ?_⟩)
         replace hS := hSn
         clear hSn
         simp only [zA, zB, zC, Act.put, zD, zE, zF]
         generalize st2 V15 K9 (zx) (A7) (Lx) (c7) = V16 at *
         refine wpAnyH_done (by kernel_rfl) ?_ _
         go_wp2_with fail
         go_meet
         replace hS := hS.sub (l' := [.num K9 zx A7 Lx c7, .dig zx A7 Lx c7 x, .num K8 zp Ap Lp cp, .num Kq zq Aq Lq cq, .dig zq Aq Lq cq q, .num Kp zp Ap Lp cp, .dig zp Ap Lp cp p, .rat (S + 1 + 1) false 0 false 0, .rat (S + 1) s' n' t' d', .rat S s n t d]) (.cons_cons _ (.cons_cons _ (.cons_cons _ (.cons _ (.cons _ (.cons_cons _ (.cons_cons _ (.cons_cons _ (.cons_cons _ (.cons_cons _ (.cons_cons _ (.cons_cons _ .slnil))))))))))))
         replace hS := hS.front 9 rfl
         replace hS := hS.front 9 rfl
         replace hS := hS.front 9 rfl
         replace hS := hS.front 9 rfl
         replace hS := hS.front 9 rfl
         replace hS := hS.front 9 rfl
         replace hS := hS.front 9 rfl
         replace hS := hS.front 8 rfl
         replace hS := hS.front 8 rfl
         replace hS := hS.front 9 rfl
         exact ⟨_, _, _, _, rfl, rfl, hS⟩
        ·refine rs_of rfl rfl (wp_value (alloc_num rfl) ⟨(hS.sub (.cons _ (.cons _ (.cons _ (.cons_cons _ (.cons_cons _ (.cons_cons _ (.cons_cons _ (.cons_cons _ (.cons_cons _ (.cons_cons _ .slnil))))))))))).alloc _, ?_⟩)
         replace hS := hS.pushNum (k := _) rfl false none 0 0
         simp only [zA, zB, zC, Act.put, zD, zE, zF]
         generalize V12.alloc boxNZ = V17 at *
         generalize V12.heap.size = K9 at *
         refine rg_one 7 (by kernel_rfl) ?_
         refine rs_of rfl rfl (wp_callx rfl enters_mul7 rfl (HM3.out _ _ _ _ _ (hS.dig 3 rfl) (hS.dig 2 rfl)) (fun q7 V18 hV => ⟨(hS.sub (.cons _ (.cons _ (.cons _ (.cons _ (.cons_cons _ (.cons_cons _ (.cons_cons _ (.cons_cons _ (.cons_cons _ (.cons_cons _ (.cons_cons _ .slnil)))))))))))).below hV.2, ?_⟩))
         obtain ⟨A7, c7⟩ := q7
         obtain ⟨hg7, hV⟩ := hV
         replace hS := (hS.below hV).pushDig hg7
         clear hV hg7
         simp only [zA, zB, zC, Act.put, zD, zE, zF]
         refine rg_one 10 (by kernel_rfl) ?_
         have hSn := hS.putNum 2 rfl (zp) (Ap) (Lp) (cp) rfl
         refine rs_of rfl rfl (stores_num (.tmp 10) (.tmp 47) rfl (t := zp) (B := Ap) (M := Lp) (cb := cp) rfl rfl (hS.num 2 rfl) ⟨hSn.sub (.cons _ (.cons _ (.cons _ (.cons _ (.cons _ (.cons_cons _ (.cons_cons _ (.cons_cons _ (.cons_cons _ (.cons_cons _ (.cons_cons _ (.cons_cons _ .slnil)))))))))))), ?_⟩)
         replace hS := hSn
         clear hSn
         simp only [zA, zB, zC, Act.put, zD, zE, zF]
         generalize st2 V18 K8 (zp) (Ap) (Lp) (cp) = V19 at *
         refine rg_one 11 (by kernel_rfl) ?_
         have hSn := hS.putNum 1 rfl (zx) (A7) (Lx) (c7) rfl
         refine rs_of rfl rfl (stores_num (.tmp 11) (.tmp 54) rfl (t := zx) (B := A7) (M := Lx) (cb := c7) rfl rfl (hS.num 1 rfl) ⟨hSn.sub (.cons _ (.cons _ (.cons _ (.cons _ (.cons _ (.cons_cons _ (.cons_cons _ (.cons_cons _ (.cons_cons _ (.cons_cons _ (.cons_cons _ (.cons_cons _ .slnil)))))))))))), ?_⟩)
         replace hS := hSn
         clear hSn
         simp only [zA, zB, zC, Act.put, zD, zE, zF]
         generalize st2 V19 K9 (zx) (A7) (Lx) (c7) = V20 at *
         refine wpAnyH_done (by kernel_rfl) ?_ _
         go_wp2_with fail
         go_meet
         replace hS := hS.sub (l' := [.dig zx A7 Lx c7 x, .num K9 zx A7 Lx c7, .num K8 zp Ap Lp cp, .num Kq zq Aq Lq cq, .dig zq Aq Lq cq q, .num Kp zp Ap Lp cp, .dig zp Ap Lp cp p, .rat (S + 1 + 1) false 0 false 0, .rat (S + 1) s' n' t' d', .rat S s n t d]) (.cons_cons _ (.cons_cons _ (.cons_cons _ (.cons _ (.cons _ (.cons_cons _ (.cons_cons _ (.cons_cons _ (.cons_cons _ (.cons_cons _ (.cons_cons _ (.cons_cons _ .slnil))))))))))))
         replace hS := hS.front 9 rfl
         replace hS := hS.front 9 rfl
         replace hS := hS.front 9 rfl
         replace hS := hS.front 9 rfl
         replace hS := hS.front 9 rfl
         replace hS := hS.front 9 rfl
         replace hS := hS.front 9 rfl
         replace hS := hS.front 7 rfl
         replace hS := hS.front 8 rfl
         replace hS := hS.front 9 rfl
         exact ⟨_, _, _, _, rfl, rfl, hS⟩
       ·refine rs_of rfl rfl (wp_value (alloc_num rfl) ⟨(hS.sub (.cons _ (.cons _ (.cons_cons _ (.cons_cons _ (.cons_cons _ (.cons_cons _ (.cons_cons _ (.cons_cons _ (.cons_cons _ .slnil)))))))))).alloc _, ?_⟩)
        replace hS := hS.pushNum (k := _) rfl false none 0 0
        simp only [zA, zB, zC, Act.put, zD, zE, zF]
        generalize V2.alloc boxNZ = V21 at *
        generalize V2.heap.size = K9 at *
        refine rg_two 7 8 (by kernel_rfl) ?_ ?_
        ·refine rs_of rfl rfl (wp_callx rfl enters_mul7 rfl (HM3.out _ _ _ _ _ (hS.dig 2 rfl) (hS.dig 1 rfl)) (fun q7 V22 hV => ⟨(hS.sub (.cons _ (.cons _ (.cons _ (.cons_cons _ (.cons_cons _ (.cons_cons _ (.cons_cons _ (.cons_cons _ (.cons_cons _ (.cons_cons _ .slnil))))))))))).below hV.2, ?_⟩))
         obtain ⟨A7, c7⟩ := q7
         obtain ⟨hg7, hV⟩ := hV
         replace hS := (hS.below hV).pushDig hg7
         clear hV hg7
         simp only [zA, zB, zC, Act.put, zD, zE, zF]
         refine rg_one 8 (by kernel_rfl) ?_
         refine rs_of rfl rfl (wp_value (alloc_num rfl) ⟨(hS.sub (.cons _ (.cons _ (.cons _ (.cons _ (.cons_cons _ (.cons_cons _ (.cons_cons _ (.cons_cons _ (.cons_cons _ (.cons_cons _ (.cons_cons _ .slnil)))))))))))).alloc _, ?_⟩)
         replace hS := hS.pushNum (k := _) rfl false none 0 0
         simp only [zA, zB, zC, Act.put, zD, zE, zF]
         generalize V22.alloc boxNZ = V23 at *
         generalize V22.heap.size = K8 at *
         refine rg_one 10 (by kernel_rfl) ?_
         have hSn := hS.putNum 0 rfl (zp) (Ap) (Lp) (cp) rfl
         refine rs_of rfl rfl (stores_num (.tmp 10) (.tmp 47) rfl (t := zp) (B := Ap) (M := Lp) (cb := cp) rfl rfl (hS.num 0 rfl) ⟨hSn.sub (.cons _ (.cons _ (.cons _ (.cons _ (.cons _ (.cons_cons _ (.cons_cons _ (.cons_cons _ (.cons_cons _ (.cons_cons _ (.cons_cons _ (.cons_cons _ .slnil)))))))))))), ?_⟩)
         replace hS := hSn
         clear hSn
         simp only [zA, zB, zC, Act.put, zD, zE, zF]
         generalize st2 V23 K8 (zp) (Ap) (Lp) (cp) = V24 at *
         refine rg_one 11 (by kernel_rfl) ?_
         have hSn := hS.putNum 2 rfl (zx) (A7) (Lx) (c7) rfl
         refine rs_of rfl rfl (stores_num (.tmp 11) (.tmp 54) rfl (t := zx) (B := A7) (M := Lx) (cb := c7) rfl rfl (hS.num 2 rfl) ⟨hSn.sub (.cons _ (.cons _ (.cons _ (.cons _ (.cons _ (.cons_cons _ (.cons_cons _ (.cons_cons _ (.cons_cons _ (.cons_cons _ (.cons_cons _ (.cons_cons _ .slnil)))))))))))), ?_⟩)
         replace hS := hSn
         clear hSn
         simp only [zA, zB, zC, Act.put, zD, zE, zF]
         generalize st2 V24 K9 (zx) (A7) (Lx) (c7) = V25 at *
         refine wpAnyH_done (by kernel_rfl) ?_ _
         go_wp2_with fail
         go_meet
         replace hS := hS.sub (l' := [.num K8 zp Ap Lp cp, .dig zx A7 Lx c7 x, .num K9 zx A7 Lx c7, .num Kq zq Aq Lq cq, .dig zq Aq Lq cq q, .num Kp zp Ap Lp cp, .dig zp Ap Lp cp p, .rat (S + 1 + 1) false 0 false 0, .rat (S + 1) s' n' t' d', .rat S s n t d]) (.cons_cons _ (.cons_cons _ (.cons_cons _ (.cons _ (.cons _ (.cons_cons _ (.cons_cons _ (.cons_cons _ (.cons_cons _ (.cons_cons _ (.cons_cons _ (.cons_cons _ .slnil))))))))))))
         replace hS := hS.front 9 rfl
         replace hS := hS.front 9 rfl
         replace hS := hS.front 9 rfl
         replace hS := hS.front 9 rfl
         replace hS := hS.front 9 rfl
         replace hS := hS.front 9 rfl
         replace hS := hS.front 9 rfl
         replace hS := hS.front 8 rfl
         replace hS := hS.front 9 rfl
         replace hS := hS.front 9 rfl
         exact ⟨_, _, _, _, rfl, rfl, hS⟩
        ·refine rs_of rfl rfl (wp_value (alloc_num rfl) ⟨(hS.sub (.cons _ (.cons _ (.cons _ (.cons_cons _ (.cons_cons _ (.cons_cons _ (.cons_cons _ (.cons_cons _ (.cons_cons _ (.cons_cons _ .slnil))))))))))).alloc _, ?_⟩)
         replace hS := hS.pushNum (k := _) rfl false none 0 0
         simp only [zA, zB, zC, Act.put, zD, zE, zF]
         generalize V21.alloc boxNZ = V26 at *
         generalize V21.heap.size = K8 at *
         refine rg_one 7 (by kernel_rfl) ?_
         refine rs_of rfl rfl (wp_callx rfl enters_mul7 rfl (HM3.out _ _ _ _ _ (hS.dig 3 rfl) (hS.dig 2 rfl)) (fun q7 V27 hV => ⟨(hS.sub (.cons _ (.cons _ (.cons _ (.cons _ (.cons_cons _ (.cons_cons _ (.cons_cons _ (.cons_cons _ (.cons_cons _ (.cons_cons _ (.cons_cons _ .slnil)))))))))))).below hV.2, ?_⟩))
         obtain ⟨A7, c7⟩ := q7
         obtain ⟨hg7, hV⟩ := hV
         replace hS := (hS.below hV).pushDig hg7
         clear hV hg7
         simp only [zA, zB, zC, Act.put, zD, zE, zF]
         refine rg_one 10 (by kernel_rfl) ?_
         have hSn := hS.putNum 1 rfl (zp) (Ap) (Lp) (cp) rfl
         refine rs_of rfl rfl (stores_num (.tmp 10) (.tmp 47) rfl (t := zp) (B := Ap) (M := Lp) (cb := cp) rfl rfl (hS.num 1 rfl) ⟨hSn.sub (.cons _ (.cons _ (.cons _ (.cons _ (.cons _ (.cons_cons _ (.cons_cons _ (.cons_cons _ (.cons_cons _ (.cons_cons _ (.cons_cons _ (.cons_cons _ .slnil)))))))))))), ?_⟩)
         replace hS := hSn
         clear hSn
         simp only [zA, zB, zC, Act.put, zD, zE, zF]
         generalize st2 V27 K8 (zp) (Ap) (Lp) (cp) = V28 at *
         refine rg_one 11 (by kernel_rfl) ?_
         have hSn := hS.putNum 2 rfl (zx) (A7) (Lx) (c7) rfl
         refine rs_of rfl rfl (stores_num (.tmp 11) (.tmp 54) rfl (t := zx) (B := A7) (M := Lx) (cb := c7) rfl rfl (hS.num 2 rfl) ⟨hSn.sub (.cons _ (.cons _ (.cons _ (.cons _ (.cons _ (.cons_cons _ (.cons_cons _ (.cons_cons _ (.cons_cons _ (.cons_cons _ (.cons_cons _ (.cons_cons _ .slnil)))))))))))), ?_⟩)
         replace hS := hSn
         clear hSn
         simp only [zA, zB, zC, Act.put, zD, zE, zF]
         generalize st2 V28 K9 (zx) (A7) (Lx) (c7) = V29 at *
         refine wpAnyH_done (by kernel_rfl) ?_ _
         go_wp2_with fail
         go_meet
         replace hS := hS.sub (l' := [.dig zx A7 Lx c7 x, .num K8 zp Ap Lp cp, .num K9 zx A7 Lx c7, .num Kq zq Aq Lq cq, .dig zq Aq Lq cq q, .num Kp zp Ap Lp cp, .dig zp Ap Lp cp p, .rat (S + 1 + 1) false 0 false 0, .rat (S + 1) s' n' t' d', .rat S s n t d]) (.cons_cons _ (.cons_cons _ (.cons_cons _ (.cons _ (.cons _ (.cons_cons _ (.cons_cons _ (.cons_cons _ (.cons_cons _ (.cons_cons _ (.cons_cons _ (.cons_cons _ .slnil))))))))))))
         replace hS := hS.front 9 rfl
         replace hS := hS.front 9 rfl
         replace hS := hS.front 9 rfl
         replace hS := hS.front 9 rfl
         replace hS := hS.front 9 rfl
         replace hS := hS.front 9 rfl
         replace hS := hS.front 9 rfl
         replace hS := hS.front 7 rfl
         replace hS := hS.front 9 rfl
         replace hS := hS.front 9 rfl
         exact ⟨_, _, _, _, rfl, rfl, hS⟩
      ·refine rs_of rfl rfl (wp_value (alloc_num rfl) ⟨(hS.sub (.cons _ (.cons_cons _ (.cons_cons _ (.cons_cons _ (.cons_cons _ (.cons_cons _ (.cons_cons _ (.cons_cons _ .slnil))))))))).alloc _, ?_⟩)
       replace hS := hS.pushNum (k := _) rfl false none 0 0
       simp only [zA, zB, zC, Act.put, zD, zE, zF]
       generalize V1.alloc boxNZ = V30 at *
       generalize V1.heap.size = K8 at *
       refine rg_two 6 9 (by kernel_rfl) ?_ ?_
       ·refine rs_of rfl rfl (wp_callx rfl enters_num8 rfl (HN4.out _) (fun q6 V31 hV => ⟨(hS.sub (.cons _ (.cons _ (.cons_cons _ (.cons_cons _ (.cons_cons _ (.cons_cons _ (.cons_cons _ (.cons_cons _ (.cons_cons _ .slnil)))))))))).below hV.2, ?_⟩))
        obtain ⟨A6, c6⟩ := q6
        obtain ⟨hg6, hV⟩ := hV
        replace hS := (hS.below hV).pushDig hg6
        clear hV hg6
        simp only [zA, zB, zC, Act.put, zD, zE, zF]
        refine rg_two 7 9 (by kernel_rfl) ?_ ?_
        ·refine rs_of rfl rfl (wp_callx rfl enters_mul7 rfl (HM3.out _ _ _ _ _ (hS.dig 2 rfl) (hS.dig 0 rfl)) (fun q7 V32 hV => ⟨(hS.sub (.cons _ (.cons _ (.cons _ (.cons_cons _ (.cons_cons _ (.cons_cons _ (.cons_cons _ (.cons_cons _ (.cons_cons _ (.cons_cons _ .slnil))))))))))).below hV.2, ?_⟩))
         obtain ⟨A7, c7⟩ := q7
         obtain ⟨hg7, hV⟩ := hV
         replace hS := (hS.below hV).pushDig hg7
         clear hV hg7
         simp only [zA, zB, zC, Act.put, zD, zE, zF]
         refine rg_one 9 (by kernel_rfl) ?_
         refine rs_of rfl rfl (wp_value (alloc_num rfl) ⟨(hS.sub (.cons _ (.cons _ (.cons _ (.cons _ (.cons_cons _ (.cons_cons _ (.cons_cons _ (.cons_cons _ (.cons_cons _ (.cons_cons _ (.cons_cons _ .slnil)))))))))))).alloc _, ?_⟩)
         replace hS := hS.pushNum (k := _) rfl false none 0 0
         simp only [zA, zB, zC, Act.put, zD, zE, zF]
         generalize V32.alloc boxNZ = V33 at *
         generalize V32.heap.size = K9 at *
         refine rg_one 10 (by kernel_rfl) ?_
         have hSn := hS.putNum 3 rfl (zp) (Ap) (Lp) (cp) rfl
         refine rs_of rfl rfl (stores_num (.tmp 10) (.tmp 47) rfl (t := zp) (B := Ap) (M := Lp) (cb := cp) rfl rfl (hS.num 3 rfl) ⟨hSn.sub (.cons _ (.cons _ (.cons _ (.cons _ (.cons _ (.cons_cons _ (.cons_cons _ (.cons_cons _ (.cons_cons _ (.cons_cons _ (.cons_cons _ (.cons_cons _ .slnil)))))))))))), ?_⟩)
         replace hS := hSn
         clear hSn
         simp only [zA, zB, zC, Act.put, zD, zE, zF]
         generalize st2 V33 K8 (zp) (Ap) (Lp) (cp) = V34 at *
         refine rg_one 11 (by kernel_rfl) ?_
         have hSn := hS.putNum 0 rfl (zx) (A7) (Lx) (c7) rfl
         refine rs_of rfl rfl (stores_num (.tmp 11) (.tmp 54) rfl (t := zx) (B := A7) (M := Lx) (cb := c7) rfl rfl (hS.num 0 rfl) ⟨hSn.sub (.cons _ (.cons _ (.cons _ (.cons _ (.cons _ (.cons_cons _ (.cons_cons _ (.cons_cons _ (.cons_cons _ (.cons_cons _ (.cons_cons _ (.cons_cons _ .slnil)))))))))))), ?_⟩)
         replace hS := hSn
         clear hSn
         simp only [zA, zB, zC, Act.put, zD, zE, zF]
         generalize st2 V34 K9 (zx) (A7) (Lx) (c7) = V35 at *
         refine wpAnyH_done (by kernel_rfl) ?_ _
         go_wp2_with fail
         go_meet
         replace hS := hS.sub (l' := [.num K9 zx A7 Lx c7, .dig zx A7 Lx c7 x, .num K8 zp Ap Lp cp, .num Kq zq Aq Lq cq, .dig zq Aq Lq cq q, .num Kp zp Ap Lp cp, .dig zp Ap Lp cp p, .rat (S + 1 + 1) false 0 false 0, .rat (S + 1) s' n' t' d', .rat S s n t d]) (.cons_cons _ (.cons_cons _ (.cons _ (.cons_cons _ (.cons _ (.cons_cons _ (.cons_cons _ (.cons_cons _ (.cons_cons _ (.cons_cons _ (.cons_cons _ (.cons_cons _ .slnil))))))))))))
         replace hS := hS.front 9 rfl
         replace hS := hS.front 9 rfl
         replace hS := hS.front 9 rfl
         replace hS := hS.front 9 rfl
         replace hS := hS.front 9 rfl
         replace hS := hS.front 9 rfl
         replace hS := hS.front 9 rfl
         replace hS := hS.front 8 rfl
         replace hS := hS.front 8 rfl
         replace hS := hS.front 9 rfl
         exact ⟨_, _, _, _, rfl, rfl, hS⟩
        ·refine rs_of rfl rfl (wp_value (alloc_num rfl) ⟨(hS.sub (.cons _ (.cons _ (.cons _ (.cons_cons _ (.cons_cons _ (.cons_cons _ (.cons_cons _ (.cons_cons _ (.cons_cons _ (.cons_cons _ .slnil))))))))))).alloc _, ?_⟩)
         replace hS := hS.pushNum (k := _) rfl false none 0 0
         simp only [zA, zB, zC, Act.put, zD, zE, zF]
         generalize V31.alloc boxNZ = V36 at *
         generalize V31.heap.size = K9 at *
         refine rg_one 7 (by kernel_rfl) ?_
         refine rs_of rfl rfl (wp_callx rfl enters_mul7 rfl (HM3.out _ _ _ _ _ (hS.dig 3 rfl) (hS.dig 1 rfl)) (fun q7 V37 hV => ⟨(hS.sub (.cons _ (.cons _ (.cons _ (.cons _ (.cons_cons _ (.cons_cons _ (.cons_cons _ (.cons_cons _ (.cons_cons _ (.cons_cons _ (.cons_cons _ .slnil)))))))))))).below hV.2, ?_⟩))
         obtain ⟨A7, c7⟩ := q7
         obtain ⟨hg7, hV⟩ := hV
         replace hS := (hS.below hV).pushDig hg7
         clear hV hg7
         simp only [zA, zB, zC, Act.put, zD, zE, zF]
         refine rg_one 10 (by kernel_rfl) ?_
         have hSn := hS.putNum 3 rfl (zp) (Ap) (Lp) (cp) rfl
         refine rs_of rfl rfl (stores_num (.tmp 10) (.tmp 47) rfl (t := zp) (B := Ap) (M := Lp) (cb := cp) rfl rfl (hS.num 3 rfl) ⟨hSn.sub (.cons _ (.cons _ (.cons _ (.cons _ (.cons _ (.cons_cons _ (.cons_cons _ (.cons_cons _ (.cons_cons _ (.cons_cons _ (.cons_cons _ (.cons_cons _ .slnil)))))))))))), ?_⟩)
         replace hS := hSn
         clear hSn
         simp only [zA, zB, zC, Act.put, zD, zE, zF]
         generalize st2 V37 K8 (zp) (Ap) (Lp) (cp) = V38 at *
         refine rg_one 11 (by kernel_rfl) ?_
         have hSn := hS.putNum 1 rfl (zx) (A7) (Lx) (c7) rfl
         refine rs_of rfl rfl (stores_num (.tmp 11) (.tmp 54) rfl (t := zx) (B := A7) (M := Lx) (cb := c7) rfl rfl (hS.num 1 rfl) ⟨hSn.sub (.cons _ (.cons _ (.cons _ (.cons _ (.cons _ (.cons_cons _ (.cons_cons _ (.cons_cons _ (.cons_cons _ (.cons_cons _ (.cons_cons _ (.cons_cons _ .slnil)))))))))))), ?_⟩)
         replace hS := hSn
         clear hSn
         simp only [zA, zB, zC, Act.put, zD, zE, zF]
         generalize st2 V38 K9 (zx) (A7) (Lx) (c7) = V39 at *
         refine wpAnyH_done (by kernel_rfl) ?_ _
         go_wp2_with fail
         go_meet
         replace hS := hS.sub (l' := [.dig zx A7 Lx c7 x, .num K9 zx A7 Lx c7, .num K8 zp Ap Lp cp, .num Kq zq Aq Lq cq, .dig zq Aq Lq cq q, .num Kp zp Ap Lp cp, .dig zp Ap Lp cp p, .rat (S + 1 + 1) false 0 false 0, .rat (S + 1) s' n' t' d', .rat S s n t d]) (.cons_cons _ (.cons_cons _ (.cons _ (.cons_cons _ (.cons _ (.cons_cons _ (.cons_cons _ (.cons_cons _ (.cons_cons _ (.cons_cons _ (.cons_cons _ (.cons_cons _ .slnil))))))))))))
         replace hS := hS.front 9 rfl
         replace hS := hS.front 9 rfl
         replace hS := hS.front 9 rfl
         replace hS := hS.front 9 rfl
         replace hS := hS.front 9 rfl
         replace hS := hS.front 9 rfl
         replace hS := hS.front 9 rfl
         replace hS := hS.front 7 rfl
         replace hS := hS.front 8 rfl
         replace hS := hS.front 9 rfl
         exact ⟨_, _, _, _, rfl, rfl, hS⟩
       ·refine rs_of rfl rfl (wp_value (alloc_num rfl) ⟨(hS.sub (.cons _ (.cons _ (.cons_cons _ (.cons_cons _ (.cons_cons _ (.cons_cons _ (.cons_cons _ (.cons_cons _ (.cons_cons _ .slnil)))))))))).alloc _, ?_⟩)
        replace hS := hS.pushNum (k := _) rfl false none 0 0
        simp only [zA, zB, zC, Act.put, zD, zE, zF]
        generalize V30.alloc boxNZ = V40 at *
        generalize V30.heap.size = K9 at *
        refine rg_one 6 (by kernel_rfl) ?_
        refine rs_of rfl rfl (wp_callx rfl enters_num8 rfl (HN4.out _) (fun q6 V41 hV => ⟨(hS.sub (.cons _ (.cons _ (.cons _ (.cons_cons _ (.cons_cons _ (.cons_cons _ (.cons_cons _ (.cons_cons _ (.cons_cons _ (.cons_cons _ .slnil))))))))))).below hV.2, ?_⟩))
        obtain ⟨A6, c6⟩ := q6
        obtain ⟨hg6, hV⟩ := hV
        replace hS := (hS.below hV).pushDig hg6
        clear hV hg6
        simp only [zA, zB, zC, Act.put, zD, zE, zF]
        refine rg_one 7 (by kernel_rfl) ?_
        refine rs_of rfl rfl (wp_callx rfl enters_mul7 rfl (HM3.out _ _ _ _ _ (hS.dig 3 rfl) (hS.dig 0 rfl)) (fun q7 V42 hV => ⟨(hS.sub (.cons _ (.cons _ (.cons _ (.cons _ (.cons_cons _ (.cons_cons _ (.cons_cons _ (.cons_cons _ (.cons_cons _ (.cons_cons _ (.cons_cons _ .slnil)))))))))))).below hV.2, ?_⟩))
        obtain ⟨A7, c7⟩ := q7
        obtain ⟨hg7, hV⟩ := hV
        replace hS := (hS.below hV).pushDig hg7
        clear hV hg7
        simp only [zA, zB, zC, Act.put, zD, zE, zF]
        refine rg_one 10 (by kernel_rfl) ?_
        have hSn := hS.putNum 3 rfl (zp) (Ap) (Lp) (cp) rfl
        refine rs_of rfl rfl (stores_num (.tmp 10) (.tmp 47) rfl (t := zp) (B := Ap) (M := Lp) (cb := cp) rfl rfl (hS.num 3 rfl) ⟨hSn.sub (.cons _ (.cons _ (.cons _ (.cons _ (.cons _ (.cons_cons _ (.cons_cons _ (.cons_cons _ (.cons_cons _ (.cons_cons _ (.cons_cons _ (.cons_cons _ .slnil)))))))))))), ?_⟩)
        replace hS := hSn
        clear hSn
        simp only [zA, zB, zC, Act.put, zD, zE, zF]
        generalize st2 V42 K8 (zp) (Ap) (Lp) (cp) = V43 at *
        refine rg_one 11 (by kernel_rfl) ?_
        have hSn := hS.putNum 2 rfl (zx) (A7) (Lx) (c7) rfl
        refine rs_of rfl rfl (stores_num (.tmp 11) (.tmp 54) rfl (t := zx) (B := A7) (M := Lx) (cb := c7) rfl rfl (hS.num 2 rfl) ⟨hSn.sub (.cons _ (.cons _ (.cons _ (.cons _ (.cons _ (.cons_cons _ (.cons_cons _ (.cons_cons _ (.cons_cons _ (.cons_cons _ (.cons_cons _ (.cons_cons _ .slnil)))))))))))), ?_⟩)
        replace hS := hSn
        clear hSn
        simp only [zA, zB, zC, Act.put, zD, zE, zF]
        generalize st2 V43 K9 (zx) (A7) (Lx) (c7) = V44 at *
        refine wpAnyH_done (by kernel_rfl) ?_ _
        go_wp2_with fail
        go_meet
        replace hS := hS.sub (l' := [.dig zx A7 Lx c7 x, .num K9 zx A7 Lx c7, .num K8 zp Ap Lp cp, .num Kq zq Aq Lq cq, .dig zq Aq Lq cq q, .num Kp zp Ap Lp cp, .dig zp Ap Lp cp p, .rat (S + 1 + 1) false 0 false 0, .rat (S + 1) s' n' t' d', .rat S s n t d]) (.cons_cons _ (.cons _ (.cons_cons _ (.cons_cons _ (.cons _ (.cons_cons _ (.cons_cons _ (.cons_cons _ (.cons_cons _ (.cons_cons _ (.cons_cons _ (.cons_cons _ .slnil))))))))))))
        replace hS := hS.front 9 rfl
        replace hS := hS.front 9 rfl
        replace hS := hS.front 9 rfl
        replace hS := hS.front 9 rfl
        replace hS := hS.front 9 rfl
        replace hS := hS.front 9 rfl
        replace hS := hS.front 9 rfl
        replace hS := hS.front 7 rfl
        replace hS := hS.front 8 rfl
        replace hS := hS.front 9 rfl
        exact ⟨_, _, _, _, rfl, rfl, hS⟩
      ·refine rs_of rfl rfl (wp_value (alloc_num rfl) ⟨(hS.sub (.cons _ (.cons_cons _ (.cons_cons _ (.cons_cons _ (.cons_cons _ (.cons_cons _ (.cons_cons _ (.cons_cons _ .slnil))))))))).alloc _, ?_⟩)
       replace hS := hS.pushNum (k := _) rfl false none 0 0
       simp only [zA, zB, zC, Act.put, zD, zE, zF]
       generalize V1.alloc boxNZ = V45 at *
       generalize V1.heap.size = K9 at *
       refine rg_two 6 8 (by kernel_rfl) ?_ ?_
       ·refine rs_of rfl rfl (wp_callx rfl enters_num8 rfl (HN4.out _) (fun q6 V46 hV => ⟨(hS.sub (.cons _ (.cons _ (.cons_cons _ (.cons_cons _ (.cons_cons _ (.cons_cons _ (.cons_cons _ (.cons_cons _ (.cons_cons _ .slnil)))))))))).below hV.2, ?_⟩))
        obtain ⟨A6, c6⟩ := q6
        obtain ⟨hg6, hV⟩ := hV
        replace hS := (hS.below hV).pushDig hg6
        clear hV hg6
        simp only [zA, zB, zC, Act.put, zD, zE, zF]
        refine rg_two 7 8 (by kernel_rfl) ?_ ?_
        ·refine rs_of rfl rfl (wp_callx rfl enters_mul7 rfl (HM3.out _ _ _ _ _ (hS.dig 2 rfl) (hS.dig 0 rfl)) (fun q7 V47 hV => ⟨(hS.sub (.cons _ (.cons _ (.cons _ (.cons_cons _ (.cons_cons _ (.cons_cons _ (.cons_cons _ (.cons_cons _ (.cons_cons _ (.cons_cons _ .slnil))))))))))).below hV.2, ?_⟩))
         obtain ⟨A7, c7⟩ := q7
         obtain ⟨hg7, hV⟩ := hV
         replace hS := (hS.below hV).pushDig hg7
         clear hV hg7
         simp only [zA, zB, zC, Act.put, zD, zE, zF]
         refine rg_one 8 (by kernel_rfl) ?_
         refine rs_of rfl rfl (wp_value (alloc_num rfl) ⟨(hS.sub (.cons _ (.cons _ (.cons _ (.cons _ (.cons_cons _ (.cons_cons _ (.cons_cons _ (.cons_cons _ (.cons_cons _ (.cons_cons _ (.cons_cons _ .slnil)))))))))))).alloc _, ?_⟩)
         replace hS := hS.pushNum (k := _) rfl false none 0 0
         simp only [zA, zB, zC, Act.put, zD, zE, zF]
         generalize V47.alloc boxNZ = V48 at *
         generalize V47.heap.size = K8 at *
         refine rg_one 10 (by kernel_rfl) ?_
         have hSn := hS.putNum 0 rfl (zp) (Ap) (Lp) (cp) rfl
         refine rs_of rfl rfl (stores_num (.tmp 10) (.tmp 47) rfl (t := zp) (B := Ap) (M := Lp) (cb := cp) rfl rfl (hS.num 0 rfl) ⟨hSn.sub (.cons _ (.cons _ (.cons _ (.cons _ (.cons _ (.cons_cons _ (.cons_cons _ (.cons_cons _ (.cons_cons _ (.cons_cons _ (.cons_cons _ (.cons_cons _ .slnil)))))))))))), ?_⟩)
         replace hS := hSn
         clear hSn
         simp only [zA, zB, zC, Act.put, zD, zE, zF]
         generalize st2 V48 K8 (zp) (Ap) (Lp) (cp) = V49 at *
         refine rg_one 11 (by kernel_rfl) ?_
         have hSn := hS.putNum 3 rfl (zx) (A7) (Lx) (c7) rfl
         refine rs_of rfl rfl (stores_num (.tmp 11) (.tmp 54) rfl (t := zx) (B := A7) (M := Lx) (cb := c7) rfl rfl (hS.num 3 rfl) ⟨hSn.sub (.cons _ (.cons _ (.cons _ (.cons _ (.cons _ (.cons_cons _ (.cons_cons _ (.cons_cons _ (.cons_cons _ (.cons_cons _ (.cons_cons _ (.cons_cons _ .slnil)))))))))))), ?_⟩)
         replace hS := hSn
         clear hSn
         simp only [zA, zB, zC, Act.put, zD, zE, zF]
         generalize st2 V49 K9 (zx) (A7) (Lx) (c7) = V50 at *
         refine wpAnyH_done (by kernel_rfl) ?_ _
         go_wp2_with fail
         go_meet
         replace hS := hS.sub (l' := [.num K8 zp Ap Lp cp, .dig zx A7 Lx c7 x, .num K9 zx A7 Lx c7, .num Kq zq Aq Lq cq, .dig zq Aq Lq cq q, .num Kp zp Ap Lp cp, .dig zp Ap Lp cp p, .rat (S + 1 + 1) false 0 false 0, .rat (S + 1) s' n' t' d', .rat S s n t d]) (.cons_cons _ (.cons_cons _ (.cons _ (.cons_cons _ (.cons _ (.cons_cons _ (.cons_cons _ (.cons_cons _ (.cons_cons _ (.cons_cons _ (.cons_cons _ (.cons_cons _ .slnil))))))))))))
         replace hS := hS.front 9 rfl
         replace hS := hS.front 9 rfl
         replace hS := hS.front 9 rfl
         replace hS := hS.front 9 rfl
         replace hS := hS.front 9 rfl
         replace hS := hS.front 9 rfl
         replace hS := hS.front 9 rfl
         replace hS := hS.front 8 rfl
         replace hS := hS.front 9 rfl
         replace hS := hS.front 9 rfl
         exact ⟨_, _, _, _, rfl, rfl, hS⟩
        ·refine rs_of rfl rfl (wp_value (alloc_num rfl) ⟨(hS.sub (.cons _ (.cons _ (.cons _ (.cons_cons _ (.cons_cons _ (.cons_cons _ (.cons_cons _ (.cons_cons _ (.cons_cons _ (.cons_cons _ .slnil))))))))))).alloc _, ?_⟩)
         replace hS := hS.pushNum (k := _) rfl false none 0 0
         simp only [zA, zB, zC, Act.put, zD, zE, zF]
         generalize V46.alloc boxNZ = V51 at *
         generalize V46.heap.size = K8 at *
         refine rg_one 7 (by kernel_rfl) ?_
         refine rs_of rfl rfl (wp_callx rfl enters_mul7 rfl (HM3.out _ _ _ _ _ (hS.dig 3 rfl) (hS.dig 1 rfl)) (fun q7 V52 hV => ⟨(hS.sub (.cons _ (.cons _ (.cons _ (.cons _ (.cons_cons _ (.cons_cons _ (.cons_cons _ (.cons_cons _ (.cons_cons _ (.cons_cons _ (.cons_cons _ .slnil)))))))))))).below hV.2, ?_⟩))
         obtain ⟨A7, c7⟩ := q7
         obtain ⟨hg7, hV⟩ := hV
         replace hS := (hS.below hV).pushDig hg7
         clear hV hg7
         simp only [zA, zB, zC, Act.put, zD, zE, zF]
         refine rg_one 10 (by kernel_rfl) ?_
         have hSn := hS.putNum 1 rfl (zp) (Ap) (Lp) (cp) rfl
         refine rs_of rfl rfl (stores_num (.tmp 10) (.tmp 47) rfl (t := zp) (B := Ap) (M := Lp) (cb := cp) rfl rfl (hS.num 1 rfl) ⟨hSn.sub (.cons _ (.cons _ (.cons _ (.cons _ (.cons _ (.cons_cons _ (.cons_cons _ (.cons_cons _ (.cons_cons _ (.cons_cons _ (.cons_cons _ (.cons_cons _ .slnil)))))))))))), ?_⟩)
         replace hS := hSn
         clear hSn
         simp only [zA, zB, zC, Act.put, zD, zE, zF]
         generalize st2 V52 K8 (zp) (Ap) (Lp) (cp) = V53 at *
         refine rg_one 11 (by kernel_rfl) ?_
         have hSn := hS.putNum 3 rfl (zx) (A7) (Lx) (c7) rfl
         refine rs_of rfl rfl (stores_num (.tmp 11) (.tmp 54) rfl (t := zx) (B := A7) (M := Lx) (cb := c7) rfl rfl (hS.num 3 rfl) ⟨hSn.sub (.cons _ (.cons _ (.cons _ (.cons _ (.cons _ (.cons_cons _ (.cons_cons _ (.cons_cons _ (.cons_cons _ (.cons_cons _ (.cons_cons _ (.cons_cons _ .slnil)))))))))))), ?_⟩)
         replace hS := hSn
         clear hSn
         simp only [zA, zB, zC, Act.put, zD, zE, zF]
         generalize st2 V53 K9 (zx) (A7) (Lx) (c7) = V54 at *
         refine wpAnyH_done (by kernel_rfl) ?_ _
         go_wp2_with fail
         go_meet
         replace hS := hS.sub (l' := [.dig zx A7 Lx c7 x, .num K8 zp Ap Lp cp, .num K9 zx A7 Lx c7, .num Kq zq Aq Lq cq, .dig zq Aq Lq cq q, .num Kp zp Ap Lp cp, .dig zp Ap Lp cp p, .rat (S + 1 + 1) false 0 false 0, .rat (S + 1) s' n' t' d', .rat S s n t d]) (.cons_cons _ (.cons_cons _ (.cons _ (.cons_cons _ (.cons _ (.cons_cons _ (.cons_cons _ (.cons_cons _ (.cons_cons _ (.cons_cons _ (.cons_cons _ (.cons_cons _ .slnil))))))))))))
         replace hS := hS.front 9 rfl
         replace hS := hS.front 9 rfl
         replace hS := hS.front 9 rfl
         replace hS := hS.front 9 rfl
         replace hS := hS.front 9 rfl
         replace hS := hS.front 9 rfl
         replace hS := hS.front 9 rfl
         replace hS := hS.front 7 rfl
         replace hS := hS.front 9 rfl
         replace hS := hS.front 9 rfl
         exact ⟨_, _, _, _, rfl, rfl, hS⟩
       ·refine rs_of rfl rfl (wp_value (alloc_num rfl) ⟨(hS.sub (.cons _ (.cons _ (.cons_cons _ (.cons_cons _ (.cons_cons _ (.cons_cons _ (.cons_cons _ (.cons_cons _ (.cons_cons _ .slnil)))))))))).alloc _, ?_⟩)
        replace hS := hS.pushNum (k := _) rfl false none 0 0
        simp only [zA, zB, zC, Act.put, zD, zE, zF]
        generalize V45.alloc boxNZ = V55 at *
        generalize V45.heap.size = K8 at *
        refine rg_one 6 (by kernel_rfl) ?_
        refine rs_of rfl rfl (wp_callx rfl enters_num8 rfl (HN4.out _) (fun q6 V56 hV => ⟨(hS.sub (.cons _ (.cons _ (.cons _ (.cons_cons _ (.cons_cons _ (.cons_cons _ (.cons_cons _ (.cons_cons _ (.cons_cons _ (.cons_cons _ .slnil))))))))))).below hV.2, ?_⟩))
        obtain ⟨A6, c6⟩ := q6
        obtain ⟨hg6, hV⟩ := hV
        replace hS := (hS.below hV).pushDig hg6
        clear hV hg6
        simp only [zA, zB, zC, Act.put, zD, zE, zF]
        refine rg_one 7 (by kernel_rfl) ?_
        refine rs_of rfl rfl (wp_callx rfl enters_mul7 rfl (HM3.out _ _ _ _ _ (hS.dig 3 rfl) (hS.dig 0 rfl)) (fun q7 V57 hV => ⟨(hS.sub (.cons _ (.cons _ (.cons _ (.cons _ (.cons_cons _ (.cons_cons _ (.cons_cons _ (.cons_cons _ (.cons_cons _ (.cons_cons _ (.cons_cons _ .slnil)))))))))))).below hV.2, ?_⟩))
        obtain ⟨A7, c7⟩ := q7
        obtain ⟨hg7, hV⟩ := hV
        replace hS := (hS.below hV).pushDig hg7
        clear hV hg7
        simp only [zA, zB, zC, Act.put, zD, zE, zF]
        refine rg_one 10 (by kernel_rfl) ?_
        have hSn := hS.putNum 2 rfl (zp) (Ap) (Lp) (cp) rfl
        refine rs_of rfl rfl (stores_num (.tmp 10) (.tmp 47) rfl (t := zp) (B := Ap) (M := Lp) (cb := cp) rfl rfl (hS.num 2 rfl) ⟨hSn.sub (.cons _ (.cons _ (.cons _ (.cons _ (.cons _ (.cons_cons _ (.cons_cons _ (.cons_cons _ (.cons_cons _ (.cons_cons _ (.cons_cons _ (.cons_cons _ .slnil)))))))))))), ?_⟩)
        replace hS := hSn
        clear hSn
        simp only [zA, zB, zC, Act.put, zD, zE, zF]
        generalize st2 V57 K8 (zp) (Ap) (Lp) (cp) = V58 at *
        refine rg_one 11 (by kernel_rfl) ?_
        have hSn := hS.putNum 3 rfl (zx) (A7) (Lx) (c7) rfl
        refine rs_of rfl rfl (stores_num (.tmp 11) (.tmp 54) rfl (t := zx) (B := A7) (M := Lx) (cb := c7) rfl rfl (hS.num 3 rfl) ⟨hSn.sub (.cons _ (.cons _ (.cons _ (.cons _ (.cons _ (.cons_cons _ (.cons_cons _ (.cons_cons _ (.cons_cons _ (.cons_cons _ (.cons_cons _ (.cons_cons _ .slnil)))))))))))), ?_⟩)
        replace hS := hSn
        clear hSn
        simp only [zA, zB, zC, Act.put, zD, zE, zF]
        generalize st2 V58 K9 (zx) (A7) (Lx) (c7) = V59 at *
        refine wpAnyH_done (by kernel_rfl) ?_ _
        go_wp2_with fail
        go_meet
        replace hS := hS.sub (l' := [.dig zx A7 Lx c7 x, .num K8 zp Ap Lp cp, .num K9 zx A7 Lx c7, .num Kq zq Aq Lq cq, .dig zq Aq Lq cq q, .num Kp zp Ap Lp cp, .dig zp Ap Lp cp p, .rat (S + 1 + 1) false 0 false 0, .rat (S + 1) s' n' t' d', .rat S s n t d]) (.cons_cons _ (.cons _ (.cons_cons _ (.cons_cons _ (.cons _ (.cons_cons _ (.cons_cons _ (.cons_cons _ (.cons_cons _ (.cons_cons _ (.cons_cons _ (.cons_cons _ .slnil))))))))))))
        replace hS := hS.front 9 rfl
        replace hS := hS.front 9 rfl
        replace hS := hS.front 9 rfl
        replace hS := hS.front 9 rfl
        replace hS := hS.front 9 rfl
        replace hS := hS.front 9 rfl
        replace hS := hS.front 9 rfl
        replace hS := hS.front 7 rfl
        replace hS := hS.front 9 rfl
        replace hS := hS.front 9 rfl
        exact ⟨_, _, _, _, rfl, rfl, hS⟩
     ·refine rs_of rfl rfl (wp_value (alloc_num rfl) ⟨(hS.sub (.cons_cons _ (.cons_cons _ (.cons_cons _ (.cons_cons _ (.cons_cons _ (.cons_cons _ (.cons_cons _ .slnil)))))))).alloc _, ?_⟩)
      replace hS := hS.pushNum (k := _) rfl false none 0 0
      simp only [zA, zB, zC, Act.put, zD, zE, zF]
      generalize V0.alloc boxNZ = V60 at *
      generalize V0.heap.size = K8 at *
      refine rg_two 3 9 (by kernel_rfl) ?_ ?_
      ·refine rs_of rfl rfl (wp_callx rfl enters_num8 rfl (HN2.out _) (fun q3 V61 hV => ⟨(hS.sub (.cons _ (.cons_cons _ (.cons_cons _ (.cons_cons _ (.cons_cons _ (.cons_cons _ (.cons_cons _ (.cons_cons _ .slnil))))))))).below hV.2, ?_⟩))
       obtain ⟨A3, c3⟩ := q3
       obtain ⟨hg3, hV⟩ := hV
       replace hS := (hS.below hV).pushDig hg3
       clear hV hg3
       simp only [zA, zB, zC, Act.put, zD, zE, zF]
       refine rg_two 6 9 (by kernel_rfl) ?_ ?_
       ·refine rs_of rfl rfl (wp_callx rfl enters_num8 rfl (HN4.out _) (fun q6 V62 hV => ⟨(hS.sub (.cons _ (.cons _ (.cons_cons _ (.cons_cons _ (.cons_cons _ (.cons_cons _ (.cons_cons _ (.cons_cons _ (.cons_cons _ .slnil)))))))))).below hV.2, ?_⟩))
        obtain ⟨A6, c6⟩ := q6
        obtain ⟨hg6, hV⟩ := hV
        replace hS := (hS.below hV).pushDig hg6
        clear hV hg6
        simp only [zA, zB, zC, Act.put, zD, zE, zF]
        refine rg_two 7 9 (by kernel_rfl) ?_ ?_
        ·refine rs_of rfl rfl (wp_callx rfl enters_mul7 rfl (HM3.out _ _ _ _ _ (hS.dig 1 rfl) (hS.dig 0 rfl)) (fun q7 V63 hV => ⟨(hS.sub (.cons _ (.cons _ (.cons _ (.cons_cons _ (.cons_cons _ (.cons_cons _ (.cons_cons _ (.cons_cons _ (.cons_cons _ (.cons_cons _ .slnil))))))))))).below hV.2, ?_⟩))
         obtain ⟨A7, c7⟩ := q7
         obtain ⟨hg7, hV⟩ := hV
         replace hS := (hS.below hV).pushDig hg7
         clear hV hg7
         simp only [zA, zB, zC, Act.put, zD, zE, zF]
         refine rg_one 9 (by kernel_rfl) ?_
         refine rs_of rfl rfl (wp_value (alloc_num rfl) ⟨(hS.sub (.cons _ (.cons _ (.cons _ (.cons _ (.cons_cons _ (.cons_cons _ (.cons_cons _ (.cons_cons _ (.cons_cons _ (.cons_cons _ (.cons_cons _ .slnil)))))))))))).alloc _, ?_⟩)
         replace hS := hS.pushNum (k := _) rfl false none 0 0
         simp only [zA, zB, zC, Act.put, zD, zE, zF]
         generalize V63.alloc boxNZ = V64 at *
         generalize V63.heap.size = K9 at *
         refine rg_one 10 (by kernel_rfl) ?_
         have hSn := hS.putNum 4 rfl (zp) (Ap) (Lp) (cp) rfl
         refine rs_of rfl rfl (stores_num (.tmp 10) (.tmp 47) rfl (t := zp) (B := Ap) (M := Lp) (cb := cp) rfl rfl (hS.num 4 rfl) ⟨hSn.sub (.cons _ (.cons _ (.cons _ (.cons _ (.cons _ (.cons_cons _ (.cons_cons _ (.cons_cons _ (.cons_cons _ (.cons_cons _ (.cons_cons _ (.cons_cons _ .slnil)))))))))))), ?_⟩)
         replace hS := hSn
         clear hSn
         simp only [zA, zB, zC, Act.put, zD, zE, zF]
         generalize st2 V64 K8 (zp) (Ap) (Lp) (cp) = V65 at *
         refine rg_one 11 (by kernel_rfl) ?_
         have hSn := hS.putNum 0 rfl (zx) (A7) (Lx) (c7) rfl
         refine rs_of rfl rfl (stores_num (.tmp 11) (.tmp 54) rfl (t := zx) (B := A7) (M := Lx) (cb := c7) rfl rfl (hS.num 0 rfl) ⟨hSn.sub (.cons _ (.cons _ (.cons _ (.cons _ (.cons _ (.cons_cons _ (.cons_cons _ (.cons_cons _ (.cons_cons _ (.cons_cons _ (.cons_cons _ (.cons_cons _ .slnil)))))))))))), ?_⟩)
         replace hS := hSn
         clear hSn
         simp only [zA, zB, zC, Act.put, zD, zE, zF]
         generalize st2 V65 K9 (zx) (A7) (Lx) (c7) = V66 at *
         refine wpAnyH_done (by kernel_rfl) ?_ _
         go_wp2_with fail
         go_meet
         replace hS := hS.sub (l' := [.num K9 zx A7 Lx c7, .dig zx A7 Lx c7 x, .num K8 zp Ap Lp cp, .num Kq zq Aq Lq cq, .dig zq Aq Lq cq q, .num Kp zp Ap Lp cp, .dig zp Ap Lp cp p, .rat (S + 1 + 1) false 0 false 0, .rat (S + 1) s' n' t' d', .rat S s n t d]) (.cons_cons _ (.cons_cons _ (.cons _ (.cons _ (.cons_cons _ (.cons_cons _ (.cons_cons _ (.cons_cons _ (.cons_cons _ (.cons_cons _ (.cons_cons _ (.cons_cons _ .slnil))))))))))))
         replace hS := hS.front 9 rfl
         replace hS := hS.front 9 rfl
         replace hS := hS.front 9 rfl
         replace hS := hS.front 9 rfl
         replace hS := hS.front 9 rfl
         replace hS := hS.front 9 rfl
         replace hS := hS.front 9 rfl
         replace hS := hS.front 8 rfl
         replace hS := hS.front 8 rfl
         replace hS := hS.front 9 rfl
         exact ⟨_, _, _, _, rfl, rfl, hS⟩
        ·refine rs_of rfl rfl (wp_value (alloc_num rfl) ⟨(hS.sub (.cons _ (.cons _ (.cons _ (.cons_cons _ (.cons_cons _ (.cons_cons _ (.cons_cons _ (.cons_cons _ (.cons_cons _ (.cons_cons _ .slnil))))))))))).alloc _, ?_⟩)
         replace hS := hS.pushNum (k := _) rfl false none 0 0
         simp only [zA, zB, zC, Act.put, zD, zE, zF]
         generalize V62.alloc boxNZ = V67 at *
         generalize V62.heap.size = K9 at *
         refine rg_one 7 (by kernel_rfl) ?_
         refine rs_of rfl rfl (wp_callx rfl enters_mul7 rfl (HM3.out _ _ _ _ _ (hS.dig 2 rfl) (hS.dig 1 rfl)) (fun q7 V68 hV => ⟨(hS.sub (.cons _ (.cons _ (.cons _ (.cons _ (.cons_cons _ (.cons_cons _ (.cons_cons _ (.cons_cons _ (.cons_cons _ (.cons_cons _ (.cons_cons _ .slnil)))))))))))).below hV.2, ?_⟩))
         obtain ⟨A7, c7⟩ := q7
         obtain ⟨hg7, hV⟩ := hV
         replace hS := (hS.below hV).pushDig hg7
         clear hV hg7
         simp only [zA, zB, zC, Act.put, zD, zE, zF]
         refine rg_one 10 (by kernel_rfl) ?_
         have hSn := hS.putNum 4 rfl (zp) (Ap) (Lp) (cp) rfl
         refine rs_of rfl rfl (stores_num (.tmp 10) (.tmp 47) rfl (t := zp) (B := Ap) (M := Lp) (cb := cp) rfl rfl (hS.num 4 rfl) ⟨hSn.sub (.cons _ (.cons _ (.cons _ (.cons _ (.cons _ (.cons_cons _ (.cons_cons _ (.cons_cons _ (.cons_cons _ (.cons_cons _ (.cons_cons _ (.cons_cons _ .slnil)))))))))))), ?_⟩)
         replace hS := hSn
         clear hSn
         simp only [zA, zB, zC, Act.put, zD, zE, zF]
         generalize st2 V68 K8 (zp) (Ap) (Lp) (cp) = V69 at *
         refine rg_one 11 (by kernel_rfl) ?_
         have hSn := hS.putNum 1 rfl (zx) (A7) (Lx) (c7) rfl
         refine rs_of rfl rfl (stores_num (.tmp 11) (.tmp 54) rfl (t := zx) (B := A7) (M := Lx) (cb := c7) rfl rfl (hS.num 1 rfl) ⟨hSn.sub (.cons _ (.cons _ (.cons _ (.cons _ (.cons _ (.cons_cons _ (.cons_cons _ (.cons_cons _ (.cons_cons _ (.cons_cons _ (.cons_cons _ (.cons_cons _ .slnil)))))))))))), ?_⟩)
         replace hS := hSn
         clear hSn
         simp only [zA, zB, zC, Act.put, zD, zE, zF]
         generalize st2 V69 K9 (zx) (A7) (Lx) (c7) = V70 at *
         refine wpAnyH_done (by kernel_rfl) ?_ _
         go_wp2_with fail
         go_meet
         replace hS := hS.sub (l' := [.dig zx A7 Lx c7 x, .num K9 zx A7 Lx c7, .num K8 zp Ap Lp cp, .num Kq zq Aq Lq cq, .dig zq Aq Lq cq q, .num Kp zp Ap Lp cp, .dig zp Ap Lp cp p, .rat (S + 1 + 1) false 0 false 0, .rat (S + 1) s' n' t' d', .rat S s n t d]) (.cons_cons _ (.cons_cons _ (.cons _ (.cons _ (.cons_cons _ (.cons_cons _ (.cons_cons _ (.cons_cons _ (.cons_cons _ (.cons_cons _ (.cons_cons _ (.cons_cons _ .slnil))))))))))))
         replace hS := hS.front 9 rfl
         replace hS := hS.front 9 rfl
         replace hS := hS.front 9 rfl
         replace hS := hS.front 9 rfl
         replace hS := hS.front 9 rfl
         replace hS := hS.front 9 rfl
         replace hS := hS.front 9 rfl
         replace hS := hS.front 7 rfl
         replace hS := hS.front 8 rfl
         replace hS := hS.front 9 rfl
         exact ⟨_, _, _, _, rfl, rfl, hS⟩
       ·refine rs_of rfl rfl (wp_value (alloc_num rfl) ⟨(hS.sub (.cons _ (.cons _ (.cons_cons _ (.cons_cons _ (.cons_cons _ (.cons_cons _ (.cons_cons _ (.cons_cons _ (.cons_cons _ .slnil)))))))))).alloc _, ?_⟩)
        replace hS := hS.pushNum (k := _) rfl false none 0 0
        simp only [zA, zB, zC, Act.put, zD, zE, zF]
        generalize V61.alloc boxNZ = V71 at *
        generalize V61.heap.size = K9 at *
        refine rg_one 6 (by kernel_rfl) ?_
        refine rs_of rfl rfl (wp_callx rfl enters_num8 rfl (HN4.out _) (fun q6 V72 hV => ⟨(hS.sub (.cons _ (.cons _ (.cons _ (.cons_cons _ (.cons_cons _ (.cons_cons _ (.cons_cons _ (.cons_cons _ (.cons_cons _ (.cons_cons _ .slnil))))))))))).below hV.2, ?_⟩))
        obtain ⟨A6, c6⟩ := q6
        obtain ⟨hg6, hV⟩ := hV
        replace hS := (hS.below hV).pushDig hg6
        clear hV hg6
        simp only [zA, zB, zC, Act.put, zD, zE, zF]
        refine rg_one 7 (by kernel_rfl) ?_
        refine rs_of rfl rfl (wp_callx rfl enters_mul7 rfl (HM3.out _ _ _ _ _ (hS.dig 2 rfl) (hS.dig 0 rfl)) (fun q7 V73 hV => ⟨(hS.sub (.cons _ (.cons _ (.cons _ (.cons _ (.cons_cons _ (.cons_cons _ (.cons_cons _ (.cons_cons _ (.cons_cons _ (.cons_cons _ (.cons_cons _ .slnil)))))))))))).below hV.2, ?_⟩))
        obtain ⟨A7, c7⟩ := q7
        obtain ⟨hg7, hV⟩ := hV
        replace hS := (hS.below hV).pushDig hg7
        clear hV hg7
        simp only [zA, zB, zC, Act.put, zD, zE, zF]
        refine rg_one 10 (by kernel_rfl) ?_
        have hSn := hS.putNum 4 rfl (zp) (Ap) (Lp) (cp) rfl
        refine rs_of rfl rfl (stores_num (.tmp 10) (.tmp 47) rfl (t := zp) (B := Ap) (M := Lp) (cb := cp) rfl rfl (hS.num 4 rfl) ⟨hSn.sub (.cons _ (.cons _ (.cons _ (.cons _ (.cons _ (.cons_cons _ (.cons_cons _ (.cons_cons _ (.cons_cons _ (.cons_cons _ (.cons_cons _ (.cons_cons _ .slnil)))))))))))), ?_⟩)
        replace hS := hSn
        clear hSn
        simp only [zA, zB, zC, Act.put, zD, zE, zF]
        generalize st2 V73 K8 (zp) (Ap) (Lp) (cp) = V74 at *
        refine rg_one 11 (by kernel_rfl) ?_
        have hSn := hS.putNum 2 rfl (zx) (A7) (Lx) (c7) rfl
        refine rs_of rfl rfl (stores_num (.tmp 11) (.tmp 54) rfl (t := zx) (B := A7) (M := Lx) (cb := c7) rfl rfl (hS.num 2 rfl) ⟨hSn.sub (.cons _ (.cons _ (.cons _ (.cons _ (.cons _ (.cons_cons _ (.cons_cons _ (.cons_cons _ (.cons_cons _ (.cons_cons _ (.cons_cons _ (.cons_cons _ .slnil)))))))))))), ?_⟩)
        replace hS := hSn
        clear hSn
        simp only [zA, zB, zC, Act.put, zD, zE, zF]
        generalize st2 V74 K9 (zx) (A7) (Lx) (c7) = V75 at *
        refine wpAnyH_done (by kernel_rfl) ?_ _
        go_wp2_with fail
        go_meet
        replace hS := hS.sub (l' := [.dig zx A7 Lx c7 x, .num K9 zx A7 Lx c7, .num K8 zp Ap Lp cp, .num Kq zq Aq Lq cq, .dig zq Aq Lq cq q, .num Kp zp Ap Lp cp, .dig zp Ap Lp cp p, .rat (S + 1 + 1) false 0 false 0, .rat (S + 1) s' n' t' d', .rat S s n t d]) (.cons_cons _ (.cons _ (.cons_cons _ (.cons _ (.cons_cons _ (.cons_cons _ (.cons_cons _ (.cons_cons _ (.cons_cons _ (.cons_cons _ (.cons_cons _ (.cons_cons _ .slnil))))))))))))
        replace hS := hS.front 9 rfl
        replace hS := hS.front 9 rfl
        replace hS := hS.front 9 rfl
        replace hS := hS.front 9 rfl
        replace hS := hS.front 9 rfl
        replace hS := hS.front 9 rfl
        replace hS := hS.front 9 rfl
        replace hS := hS.front 7 rfl
        replace hS := hS.front 8 rfl
        replace hS := hS.front 9 rfl
        exact ⟨_, _, _, _, rfl, rfl, hS⟩
      ·refine rs_of rfl rfl (wp_value (alloc_num rfl) ⟨(hS.sub (.cons _ (.cons_cons _ (.cons_cons _ (.cons_cons _ (.cons_cons _ (.cons_cons _ (.cons_cons _ (.cons_cons _ .slnil))))))))).alloc _, ?_⟩)
       replace hS := hS.pushNum (k := _) rfl false none 0 0
       simp only [zA, zB, zC, Act.put, zD, zE, zF]
       generalize V60.alloc boxNZ = V76 at *
       generalize V60.heap.size = K9 at *
       refine rg_one 3 (by kernel_rfl) ?_
       refine rs_of rfl rfl (wp_callx rfl enters_num8 rfl (HN2.out _) (fun q3 V77 hV => ⟨(hS.sub (.cons _ (.cons _ (.cons_cons _ (.cons_cons _ (.cons_cons _ (.cons_cons _ (.cons_cons _ (.cons_cons _ (.cons_cons _ .slnil)))))))))).below hV.2, ?_⟩))
       obtain ⟨A3, c3⟩ := q3
       obtain ⟨hg3, hV⟩ := hV
       replace hS := (hS.below hV).pushDig hg3
       clear hV hg3
       simp only [zA, zB, zC, Act.put, zD, zE, zF]
       refine rg_one 6 (by kernel_rfl) ?_
       refine rs_of rfl rfl (wp_callx rfl enters_num8 rfl (HN4.out _) (fun q6 V78 hV => ⟨(hS.sub (.cons _ (.cons _ (.cons _ (.cons_cons _ (.cons_cons _ (.cons_cons _ (.cons_cons _ (.cons_cons _ (.cons_cons _ (.cons_cons _ .slnil))))))))))).below hV.2, ?_⟩))
       obtain ⟨A6, c6⟩ := q6
       obtain ⟨hg6, hV⟩ := hV
       replace hS := (hS.below hV).pushDig hg6
       clear hV hg6
       simp only [zA, zB, zC, Act.put, zD, zE, zF]
       refine rg_one 7 (by kernel_rfl) ?_
       refine rs_of rfl rfl (wp_callx rfl enters_mul7 rfl (HM3.out _ _ _ _ _ (hS.dig 1 rfl) (hS.dig 0 rfl)) (fun q7 V79 hV => ⟨(hS.sub (.cons _ (.cons _ (.cons _ (.cons _ (.cons_cons _ (.cons_cons _ (.cons_cons _ (.cons_cons _ (.cons_cons _ (.cons_cons _ (.cons_cons _ .slnil)))))))))))).below hV.2, ?_⟩))
       obtain ⟨A7, c7⟩ := q7
       obtain ⟨hg7, hV⟩ := hV
       replace hS := (hS.below hV).pushDig hg7
       clear hV hg7
       simp only [zA, zB, zC, Act.put, zD, zE, zF]
       refine rg_one 10 (by kernel_rfl) ?_
       have hSn := hS.putNum 4 rfl (zp) (Ap) (Lp) (cp) rfl
       refine rs_of rfl rfl (stores_num (.tmp 10) (.tmp 47) rfl (t := zp) (B := Ap) (M := Lp) (cb := cp) rfl rfl (hS.num 4 rfl) ⟨hSn.sub (.cons _ (.cons _ (.cons _ (.cons _ (.cons _ (.cons_cons _ (.cons_cons _ (.cons_cons _ (.cons_cons _ (.cons_cons _ (.cons_cons _ (.cons_cons _ .slnil)))))))))))), ?_⟩)
       replace hS := hSn
       clear hSn
       simp only [zA, zB, zC, Act.put, zD, zE, zF]
       generalize st2 V79 K8 (zp) (Ap) (Lp) (cp) = V80 at *
       refine rg_one 11 (by kernel_rfl) ?_
       have hSn := hS.putNum 3 rfl (zx) (A7) (Lx) (c7) rfl
       refine rs_of rfl rfl (stores_num (.tmp 11) (.tmp 54) rfl (t := zx) (B := A7) (M := Lx) (cb := c7) rfl rfl (hS.num 3 rfl) ⟨hSn.sub (.cons _ (.cons _ (.cons _ (.cons _ (.cons _ (.cons_cons _ (.cons_cons _ (.cons_cons _ (.cons_cons _ (.cons_cons _ (.cons_cons _ (.cons_cons _ .slnil)))))))))))), ?_⟩)
       replace hS := hSn
       clear hSn
       simp only [zA, zB, zC, Act.put, zD, zE, zF]
       generalize st2 V80 K9 (zx) (A7) (Lx) (c7) = V81 at *
       refine wpAnyH_done (by kernel_rfl) ?_ _
       go_wp2_with fail
       go_meet
       replace hS := hS.sub (l' := [.dig zx A7 Lx c7 x, .num K9 zx A7 Lx c7, .num K8 zp Ap Lp cp, .num Kq zq Aq Lq cq, .dig zq Aq Lq cq q, .num Kp zp Ap Lp cp, .dig zp Ap Lp cp p, .rat (S + 1 + 1) false 0 false 0, .rat (S + 1) s' n' t' d', .rat S s n t d]) (.cons_cons _ (.cons _ (.cons _ (.cons_cons _ (.cons_cons _ (.cons_cons _ (.cons_cons _ (.cons_cons _ (.cons_cons _ (.cons_cons _ (.cons_cons _ (.cons_cons _ .slnil))))))))))))
       replace hS := hS.front 9 rfl
       replace hS := hS.front 9 rfl
       replace hS := hS.front 9 rfl
       replace hS := hS.front 9 rfl
       replace hS := hS.front 9 rfl
       replace hS := hS.front 9 rfl
       replace hS := hS.front 9 rfl
       replace hS := hS.front 7 rfl
       replace hS := hS.front 8 rfl
       replace hS := hS.front 9 rfl
       exact ⟨_, _, _, _, rfl, rfl, hS⟩
     ·refine rs_of rfl rfl (wp_value (alloc_num rfl) ⟨(hS.sub (.cons_cons _ (.cons_cons _ (.cons_cons _ (.cons_cons _ (.cons_cons _ (.cons_cons _ (.cons_cons _ .slnil)))))))).alloc _, ?_⟩)
      replace hS := hS.pushNum (k := _) rfl false none 0 0
      simp only [zA, zB, zC, Act.put, zD, zE, zF]
      generalize V0.alloc boxNZ = V82 at *
      generalize V0.heap.size = K9 at *
      refine rg_two 3 8 (by kernel_rfl) ?_ ?_
      ·refine rs_of rfl rfl (wp_callx rfl enters_num8 rfl (HN2.out _) (fun q3 V83 hV => ⟨(hS.sub (.cons _ (.cons_cons _ (.cons_cons _ (.cons_cons _ (.cons_cons _ (.cons_cons _ (.cons_cons _ (.cons_cons _ .slnil))))))))).below hV.2, ?_⟩))
       obtain ⟨A3, c3⟩ := q3
       obtain ⟨hg3, hV⟩ := hV
       replace hS := (hS.below hV).pushDig hg3
       clear hV hg3
       simp only [zA, zB, zC, Act.put, zD, zE, zF]
       refine rg_two 6 8 (by kernel_rfl) ?_ ?_
       ·refine rs_of rfl rfl (wp_callx rfl enters_num8 rfl (HN4.out _) (fun q6 V84 hV => ⟨(hS.sub (.cons _ (.cons _ (.cons_cons _ (.cons_cons _ (.cons_cons _ (.cons_cons _ (.cons_cons _ (.cons_cons _ (.cons_cons _ .slnil)))))))))).below hV.2, ?_⟩))
        obtain ⟨A6, c6⟩ := q6
        obtain ⟨hg6, hV⟩ := hV
        replace hS := (hS.below hV).pushDig hg6
        clear hV hg6
        simp only [zA, zB, zC, Act.put, zD, zE, zF]
        refine rg_two 7 8 (by kernel_rfl) ?_ ?_
        ·refine rs_of rfl rfl (wp_callx rfl enters_mul7 rfl (HM3.out _ _ _ _ _ (hS.dig 1 rfl) (hS.dig 0 rfl)) (fun q7 V85 hV => ⟨(hS.sub (.cons _ (.cons _ (.cons _ (.cons_cons _ (.cons_cons _ (.cons_cons _ (.cons_cons _ (.cons_cons _ (.cons_cons _ (.cons_cons _ .slnil))))))))))).below hV.2, ?_⟩))
         obtain ⟨A7, c7⟩ := q7
         obtain ⟨hg7, hV⟩ := hV
         replace hS := (hS.below hV).pushDig hg7
         clear hV hg7
         simp only [zA, zB, zC, Act.put, zD, zE, zF]
         refine rg_one 8 (by kernel_rfl) ?_
         refine rs_of rfl rfl (wp_value (alloc_num rfl) ⟨(hS.sub (.cons _ (.cons _ (.cons _ (.cons _ (.cons_cons _ (.cons_cons _ (.cons_cons _ (.cons_cons _ (.cons_cons _ (.cons_cons _ (.cons_cons _ .slnil)))))))))))).alloc _, ?_⟩)
         replace hS := hS.pushNum (k := _) rfl false none 0 0
         simp only [zA, zB, zC, Act.put, zD, zE, zF]
         generalize V85.alloc boxNZ = V86 at *
         generalize V85.heap.size = K8 at *
         refine rg_one 10 (by kernel_rfl) ?_
         have hSn := hS.putNum 0 rfl (zp) (Ap) (Lp) (cp) rfl
         refine rs_of rfl rfl (stores_num (.tmp 10) (.tmp 47) rfl (t := zp) (B := Ap) (M := Lp) (cb := cp) rfl rfl (hS.num 0 rfl) ⟨hSn.sub (.cons _ (.cons _ (.cons _ (.cons _ (.cons _ (.cons_cons _ (.cons_cons _ (.cons_cons _ (.cons_cons _ (.cons_cons _ (.cons_cons _ (.cons_cons _ .slnil)))))))))))), ?_⟩)
         replace hS := hSn
         clear hSn
         simp only [zA, zB, zC, Act.put, zD, zE, zF]
         generalize st2 V86 K8 (zp) (Ap) (Lp) (cp) = V87 at *
         refine rg_one 11 (by kernel_rfl) ?_
         have hSn := hS.putNum 4 rfl (zx) (A7) (Lx) (c7) rfl
         refine rs_of rfl rfl (stores_num (.tmp 11) (.tmp 54) rfl (t := zx) (B := A7) (M := Lx) (cb := c7) rfl rfl (hS.num 4 rfl) ⟨hSn.sub (.cons _ (.cons _ (.cons _ (.cons _ (.cons _ (.cons_cons _ (.cons_cons _ (.cons_cons _ (.cons_cons _ (.cons_cons _ (.cons_cons _ (.cons_cons _ .slnil)))))))))))), ?_⟩)
         replace hS := hSn
         clear hSn
         simp only [zA, zB, zC, Act.put, zD, zE, zF]
         generalize st2 V87 K9 (zx) (A7) (Lx) (c7) = V88 at *
         refine wpAnyH_done (by kernel_rfl) ?_ _
         go_wp2_with fail
         go_meet
         replace hS := hS.sub (l' := [.num K8 zp Ap Lp cp, .dig zx A7 Lx c7 x, .num K9 zx A7 Lx c7, .num Kq zq Aq Lq cq, .dig zq Aq Lq cq q, .num Kp zp Ap Lp cp, .dig zp Ap Lp cp p, .rat (S + 1 + 1) false 0 false 0, .rat (S + 1) s' n' t' d', .rat S s n t d]) (.cons_cons _ (.cons_cons _ (.cons _ (.cons _ (.cons_cons _ (.cons_cons _ (.cons_cons _ (.cons_cons _ (.cons_cons _ (.cons_cons _ (.cons_cons _ (.cons_cons _ .slnil))))))))))))
         replace hS := hS.front 9 rfl
         replace hS := hS.front 9 rfl
         replace hS := hS.front 9 rfl
         replace hS := hS.front 9 rfl
         replace hS := hS.front 9 rfl
         replace hS := hS.front 9 rfl
         replace hS := hS.front 9 rfl
         replace hS := hS.front 8 rfl
         replace hS := hS.front 9 rfl
         replace hS := hS.front 9 rfl
         exact ⟨_, _, _, _, rfl, rfl, hS⟩
        ·refine rs_of rfl rfl (wp_value (alloc_num rfl) ⟨(hS.sub (.cons _ (.cons _ (.cons _ (.cons_cons _ (.cons_cons _ (.cons_cons _ (.cons_cons _ (.cons_cons _ (.cons_cons _ (.cons_cons _ .slnil))))))))))).alloc _, ?_⟩)
         replace hS := hS.pushNum (k := _) rfl false none 0 0
         simp only [zA, zB, zC, Act.put, zD, zE, zF]
         generalize V84.alloc boxNZ = V89 at *
         generalize V84.heap.size = K8 at *
         refine rg_one 7 (by kernel_rfl) ?_
         refine rs_of rfl rfl (wp_callx rfl enters_mul7 rfl (HM3.out _ _ _ _ _ (hS.dig 2 rfl) (hS.dig 1 rfl)) (fun q7 V90 hV => ⟨(hS.sub (.cons _ (.cons _ (.cons _ (.cons _ (.cons_cons _ (.cons_cons _ (.cons_cons _ (.cons_cons _ (.cons_cons _ (.cons_cons _ (.cons_cons _ .slnil)))))))))))).below hV.2, ?_⟩))
         obtain ⟨A7, c7⟩ := q7
         obtain ⟨hg7, hV⟩ := hV
         replace hS := (hS.below hV).pushDig hg7
         clear hV hg7
         simp only [zA, zB, zC, Act.put, zD, zE, zF]
         refine rg_one 10 (by kernel_rfl) ?_
         have hSn := hS.putNum 1 rfl (zp) (Ap) (Lp) (cp) rfl
         refine rs_of rfl rfl (stores_num (.tmp 10) (.tmp 47) rfl (t := zp) (B := Ap) (M := Lp) (cb := cp) rfl rfl (hS.num 1 rfl) ⟨hSn.sub (.cons _ (.cons _ (.cons _ (.cons _ (.cons _ (.cons_cons _ (.cons_cons _ (.cons_cons _ (.cons_cons _ (.cons_cons _ (.cons_cons _ (.cons_cons _ .slnil)))))))))))), ?_⟩)
         replace hS := hSn
         clear hSn
         simp only [zA, zB, zC, Act.put, zD, zE, zF]
         generalize st2 V90 K8 (zp) (Ap) (Lp) (cp) = V91 at *
         refine rg_one 11 (by kernel_rfl) ?_
         have hSn := hS.putNum 4 rfl (zx) (A7) (Lx) (c7) rfl
         refine rs_of rfl rfl (stores_num (.tmp 11) (.tmp 54) rfl (t := zx) (B := A7) (M := Lx) (cb := c7) rfl rfl (hS.num 4 rfl) ⟨hSn.sub (.cons _ (.cons _ (.cons _ (.cons _ (.cons _ (.cons_cons _ (.cons_cons _ (.cons_cons _ (.cons_cons _ (.cons_cons _ (.cons_cons _ (.cons_cons _ .slnil)))))))))))), ?_⟩)
         replace hS := hSn
         clear hSn
         simp only [zA, zB, zC, Act.put, zD, zE, zF]
         generalize st2 V91 K9 (zx) (A7) (Lx) (c7) = V92 at *
         refine wpAnyH_done (by kernel_rfl) ?_ _
         go_wp2_with fail
         go_meet
         replace hS := hS.sub (l' := [.dig zx A7 Lx c7 x, .num K8 zp Ap Lp cp, .num K9 zx A7 Lx c7, .num Kq zq Aq Lq cq, .dig zq Aq Lq cq q, .num Kp zp Ap Lp cp, .dig zp Ap Lp cp p, .rat (S + 1 + 1) false 0 false 0, .rat (S + 1) s' n' t' d', .rat S s n t d]) (.cons_cons _ (.cons_cons _ (.cons _ (.cons _ (.cons_cons _ (.cons_cons _ (.cons_cons _ (.cons_cons _ (.cons_cons _ (.cons_cons _ (.cons_cons _ (.cons_cons _ .slnil))))))))))))
         replace hS := hS.front 9 rfl
         replace hS := hS.front 9 rfl
         replace hS := hS.front 9 rfl
         replace hS := hS.front 9 rfl
         replace hS := hS.front 9 rfl
         replace hS := hS.front 9 rfl
         replace hS := hS.front 9 rfl
         replace hS := hS.front 7 rfl
         replace hS := hS.front 9 rfl
         replace hS := hS.front 9 rfl
         exact ⟨_, _, _, _, rfl, rfl, hS⟩
       ·refine rs_of rfl rfl (wp_value (alloc_num rfl) ⟨(hS.sub (.cons _ (.cons _ (.cons_cons _ (.cons_cons _ (.cons_cons _ (.cons_cons _ (.cons_cons _ (.cons_cons _ (.cons_cons _ .slnil)))))))))).alloc _, ?_⟩)
        replace hS := hS.pushNum (k := _) rfl false none 0 0
        simp only [zA, zB, zC, Act.put, zD, zE, zF]
        generalize V83.alloc boxNZ = V93 at *
        generalize V83.heap.size = K8 at *
        refine rg_one 6 (by kernel_rfl) ?_
        refine rs_of rfl rfl (wp_callx rfl enters_num8 rfl (HN4.out _) (fun q6 V94 hV => ⟨(hS.sub (.cons _ (.cons _ (.cons _ (.cons_cons _ (.cons_cons _ (.cons_cons _ (.cons_cons _ (.cons_cons _ (.cons_cons _ (.cons_cons _ .slnil))))))))))).below hV.2, ?_⟩))
        obtain ⟨A6, c6⟩ := q6
        obtain ⟨hg6, hV⟩ := hV
        replace hS := (hS.below hV).pushDig hg6
        clear hV hg6
        simp only [zA, zB, zC, Act.put, zD, zE, zF]
        refine rg_one 7 (by kernel_rfl) ?_
        refine rs_of rfl rfl (wp_callx rfl enters_mul7 rfl (HM3.out _ _ _ _ _ (hS.dig 2 rfl) (hS.dig 0 rfl)) (fun q7 V95 hV => ⟨(hS.sub (.cons _ (.cons _ (.cons _ (.cons _ (.cons_cons _ (.cons_cons _ (.cons_cons _ (.cons_cons _ (.cons_cons _ (.cons_cons _ (.cons_cons _ .slnil)))))))))))).below hV.2, ?_⟩))
        obtain ⟨A7, c7⟩ := q7
        obtain ⟨hg7, hV⟩ := hV
        replace hS := (hS.below hV).pushDig hg7
        clear hV hg7
        simp only [zA, zB, zC, Act.put, zD, zE, zF]
        refine rg_one 10 (by kernel_rfl) ?_
        have hSn := hS.putNum 2 rfl (zp) (Ap) (Lp) (cp) rfl
        refine rs_of rfl rfl (stores_num (.tmp 10) (.tmp 47) rfl (t := zp) (B := Ap) (M := Lp) (cb := cp) rfl rfl (hS.num 2 rfl) ⟨hSn.sub (.cons _ (.cons _ (.cons _ (.cons _ (.cons _ (.cons_cons _ (.cons_cons _ (.cons_cons _ (.cons_cons _ (.cons_cons _ (.cons_cons _ (.cons_cons _ .slnil)))))))))))), ?_⟩)
        replace hS := hSn
        clear hSn
        simp only [zA, zB, zC, Act.put, zD, zE, zF]
        generalize st2 V95 K8 (zp) (Ap) (Lp) (cp) = V96 at *
        refine rg_one 11 (by kernel_rfl) ?_
        have hSn := hS.putNum 4 rfl (zx) (A7) (Lx) (c7) rfl
        refine rs_of rfl rfl (stores_num (.tmp 11) (.tmp 54) rfl (t := zx) (B := A7) (M := Lx) (cb := c7) rfl rfl (hS.num 4 rfl) ⟨hSn.sub (.cons _ (.cons _ (.cons _ (.cons _ (.cons _ (.cons_cons _ (.cons_cons _ (.cons_cons _ (.cons_cons _ (.cons_cons _ (.cons_cons _ (.cons_cons _ .slnil)))))))))))), ?_⟩)
        replace hS := hSn
        clear hSn
        simp only [zA, zB, zC, Act.put, zD, zE, zF]
        generalize st2 V96 K9 (zx) (A7) (Lx) (c7) = V97 at *
        refine wpAnyH_done (by kernel_rfl) ?_ _
        go_wp2_with fail
        go_meet
        replace hS := hS.sub (l' := [.dig zx A7 Lx c7 x, .num K8 zp Ap Lp cp, .num K9 zx A7 Lx c7, .num Kq zq Aq Lq cq, .dig zq Aq Lq cq q, .num Kp zp Ap Lp cp, .dig zp Ap Lp cp p, .rat (S + 1 + 1) false 0 false 0, .rat (S + 1) s' n' t' d', .rat S s n t d]) (.cons_cons _ (.cons _ (.cons_cons _ (.cons _ (.cons_cons _ (.cons_cons _ (.cons_cons _ (.cons_cons _ (.cons_cons _ (.cons_cons _ (.cons_cons _ (.cons_cons _ .slnil))))))))))))
        replace hS := hS.front 9 rfl
        replace hS := hS.front 9 rfl
        replace hS := hS.front 9 rfl
        replace hS := hS.front 9 rfl
        replace hS := hS.front 9 rfl
        replace hS := hS.front 9 rfl
        replace hS := hS.front 9 rfl
        replace hS := hS.front 7 rfl
        replace hS := hS.front 9 rfl
        replace hS := hS.front 9 rfl
        exact ⟨_, _, _, _, rfl, rfl, hS⟩
      ·refine rs_of rfl rfl (wp_value (alloc_num rfl) ⟨(hS.sub (.cons _ (.cons_cons _ (.cons_cons _ (.cons_cons _ (.cons_cons _ (.cons_cons _ (.cons_cons _ (.cons_cons _ .slnil))))))))).alloc _, ?_⟩)
       replace hS := hS.pushNum (k := _) rfl false none 0 0
       simp only [zA, zB, zC, Act.put, zD, zE, zF]
       generalize V82.alloc boxNZ = V98 at *
       generalize V82.heap.size = K8 at *
       refine rg_one 3 (by kernel_rfl) ?_
       refine rs_of rfl rfl (wp_callx rfl enters_num8 rfl (HN2.out _) (fun q3 V99 hV => ⟨(hS.sub (.cons _ (.cons _ (.cons_cons _ (.cons_cons _ (.cons_cons _ (.cons_cons _ (.cons_cons _ (.cons_cons _ (.cons_cons _ .slnil)))))))))).below hV.2, ?_⟩))
       obtain ⟨A3, c3⟩ := q3
       obtain ⟨hg3, hV⟩ := hV
       replace hS := (hS.below hV).pushDig hg3
       clear hV hg3
       simp only [zA, zB, zC, Act.put, zD, zE, zF]
       refine rg_one 6 (by kernel_rfl) ?_
       refine rs_of rfl rfl (wp_callx rfl enters_num8 rfl (HN4.out _) (fun q6 V100 hV => ⟨(hS.sub (.cons _ (.cons _ (.cons _ (.cons_cons _ (.cons_cons _ (.cons_cons _ (.cons_cons _ (.cons_cons _ (.cons_cons _ (.cons_cons _ .slnil))))))))))).below hV.2, ?_⟩))
       obtain ⟨A6, c6⟩ := q6
       obtain ⟨hg6, hV⟩ := hV
       replace hS := (hS.below hV).pushDig hg6
       clear hV hg6
       simp only [zA, zB, zC, Act.put, zD, zE, zF]
       refine rg_one 7 (by kernel_rfl) ?_
       refine rs_of rfl rfl (wp_callx rfl enters_mul7 rfl (HM3.out _ _ _ _ _ (hS.dig 1 rfl) (hS.dig 0 rfl)) (fun q7 V101 hV => ⟨(hS.sub (.cons _ (.cons _ (.cons _ (.cons _ (.cons_cons _ (.cons_cons _ (.cons_cons _ (.cons_cons _ (.cons_cons _ (.cons_cons _ (.cons_cons _ .slnil)))))))))))).below hV.2, ?_⟩))
       obtain ⟨A7, c7⟩ := q7
       obtain ⟨hg7, hV⟩ := hV
       replace hS := (hS.below hV).pushDig hg7
       clear hV hg7
       simp only [zA, zB, zC, Act.put, zD, zE, zF]
       refine rg_one 10 (by kernel_rfl) ?_
       have hSn := hS.putNum 3 rfl (zp) (Ap) (Lp) (cp) rfl
       refine rs_of rfl rfl (stores_num (.tmp 10) (.tmp 47) rfl (t := zp) (B := Ap) (M := Lp) (cb := cp) rfl rfl (hS.num 3 rfl) ⟨hSn.sub (.cons _ (.cons _ (.cons _ (.cons _ (.cons _ (.cons_cons _ (.cons_cons _ (.cons_cons _ (.cons_cons _ (.cons_cons _ (.cons_cons _ (.cons_cons _ .slnil)))))))))))), ?_⟩)
       replace hS := hSn
       clear hSn
       simp only [zA, zB, zC, Act.put, zD, zE, zF]
       generalize st2 V101 K8 (zp) (Ap) (Lp) (cp) = V102 at *
       refine rg_one 11 (by kernel_rfl) ?_
       have hSn := hS.putNum 4 rfl (zx) (A7) (Lx) (c7) rfl
       refine rs_of rfl rfl (stores_num (.tmp 11) (.tmp 54) rfl (t := zx) (B := A7) (M := Lx) (cb := c7) rfl rfl (hS.num 4 rfl) ⟨hSn.sub (.cons _ (.cons _ (.cons _ (.cons _ (.cons _ (.cons_cons _ (.cons_cons _ (.cons_cons _ (.cons_cons _ (.cons_cons _ (.cons_cons _ (.cons_cons _ .slnil)))))))))))), ?_⟩)
       replace hS := hSn
       clear hSn
       simp only [zA, zB, zC, Act.put, zD, zE, zF]
       generalize st2 V102 K9 (zx) (A7) (Lx) (c7) = V103 at *
       refine wpAnyH_done (by kernel_rfl) ?_ _
       go_wp2_with fail
       go_meet
       replace hS := hS.sub (l' := [.dig zx A7 Lx c7 x, .num K8 zp Ap Lp cp, .num K9 zx A7 Lx c7, .num Kq zq Aq Lq cq, .dig zq Aq Lq cq q, .num Kp zp Ap Lp cp, .dig zp Ap Lp cp p, .rat (S + 1 + 1) false 0 false 0, .rat (S + 1) s' n' t' d', .rat S s n t d]) (.cons_cons _ (.cons _ (.cons _ (.cons_cons _ (.cons_cons _ (.cons_cons _ (.cons_cons _ (.cons_cons _ (.cons_cons _ (.cons_cons _ (.cons_cons _ (.cons_cons _ .slnil))))))))))))
       replace hS := hS.front 9 rfl
       replace hS := hS.front 9 rfl
       replace hS := hS.front 9 rfl
       replace hS := hS.front 9 rfl
       replace hS := hS.front 9 rfl
       replace hS := hS.front 9 rfl
       replace hS := hS.front 9 rfl
       replace hS := hS.front 7 rfl
       replace hS := hS.front 9 rfl
       replace hS := hS.front 9 rfl
       exact ⟨_, _, _, _, rfl, rfl, hS⟩
    case rest =>
     obtain ⟨Kn, Kd, Ad, cd, rfl, rfl, I2⟩ := hcut
     clear I
     have I := Lib.hid I2
     clear I2
     rcases hkap with rfl | rfl | rfl | rfl
     ·have H := Lib.hid (H0.out rfl)
      clear H0 H1 H2 H3
      obtain ⟨r, hr⟩ : ∃ r, addN zp p zq q = r := ⟨_, rfl⟩
      obtain ⟨Lr, hLr⟩ : ∃ L, nl r = L := ⟨_, rfl⟩
      obtain ⟨zr, hzr⟩ : ∃ z, sgn (addS zp p zq q) (addN zp p zq q) = z := ⟨_, rfl⟩
      have HAD := Lib.hid (fun W A c B e ha hb => Add_out (L := Lp) (L' := Lq) (by omega) hzr hr hLr W A c B e ha hb)
      rw [hzr, hr] at H
      replace hLr := Lib.hid hLr
      clear hr hzr
      obtain ⟨a0, a0', a1, a1'⟩ := I.out.num 3 rfl
      obtain ⟨b0, b0', b1, b1'⟩ := I.out.num 5 rfl
      have HAX := Lib.hid (HAD.out wc _ _ _ _ (I.out.dig 6 rfl) (I.out.dig 4 rfl))
      go_wp2_with fail
      refine HAX.out.mono ?_
      rintro e w3 ⟨⟨Ar, cr⟩, rfl, hgg, hw⟩
      replace I := Lib.hid ((I.out.below hw).pushDig hgg)
      clear hw hgg HAX HAD a0 a0' a1 a1' b0 b0' b1 b1'
      obtain ⟨a0, a0', a1, a1'⟩ := I.out.num 1 rfl
      have I2 := I.out.putNum 1 rfl zr Ar Lr cr rfl
      go_upto_region 12 with fail
      clear a0 a0' a1 a1'
      show Code.wp _ _ _ _ (st2 w3 Kn zr Ar Lr cr)
      generalize st2 w3 Kn zr Ar Lr cr = w4 at *
      replace I := Lib.hid I2
      clear I2
      obtain ⟨b0, b0', b1, b1'⟩ := I.out.num 6 rfl
      by_cases fp : Fits p
      rotate_left
      ·go_wp2_with fail
       refine (over_yes (s := zp) (A := Ap) (c := cp) hLp.out fp w4).mono ?_
       rintro e w5 ⟨rfl, hw⟩
       replace I := Lib.hid (I.out.below hw)
       clear hw b0 b0' b1 b1'
       obtain ⟨rfl, rfl, rfl, rfl⟩ := H.out.b4 rfl rfl (by first | exact id | exact hb2.out rfl | exact hb2.out trivial) (fun hf => fp hf.1)
       have HZ := Lib.hid (I.out.rat 8 rfl)
       go_wp2_with (first | (with_reducible refine wpList_build_zero rfl rfl ?_) | (with_reducible refine wpList_store_rat rfl (.tmp 6) (.tmp 105) rfl (b := S + 1 + 1) (s := false) (n := 0) (t := false) (d := 0) rfl rfl HZ.out ?_))
       have I2 := I.out.putRat 8 rfl false 0 false 0 rfl
       exact bodyPost_ret (v := .tuple #[ratV false 0 false 0, .int .i64 (9 : Nat)]) (results_rat rfl rfl rfl (I2.rat 8 rfl)) rfl ⟨rfl, I2.bl⟩
      go_wp2_with fail
      refine (over_no (s := zp) (A := Ap) (c := cp) hLp.out fp w4).mono ?_
      rintro e w5 ⟨rfl, hw⟩
      replace I := Lib.hid (I.out.below hw)
      clear hw b0 b0' b1 b1'
      obtain ⟨b0, b0', b1, b1'⟩ := I.out.num 4 rfl
      by_cases fq : Fits q
      rotate_left
      ·go_wp2_with fail
       refine (over_yes (s := zq) (A := Aq) (c := cq) hLq.out fq w5).mono ?_
       rintro e w6 ⟨rfl, hw⟩
       replace I := Lib.hid (I.out.below hw)
       clear hw b0 b0' b1 b1'
       obtain ⟨rfl, rfl, rfl, rfl⟩ := H.out.b4 rfl rfl (by first | exact id | exact hb2.out rfl | exact hb2.out trivial) (fun hf => fq hf.2.1)
       have HZ := Lib.hid (I.out.rat 8 rfl)
       go_wp2_with (first | (with_reducible refine wpList_build_zero rfl rfl ?_) | (with_reducible refine wpList_store_rat rfl (.tmp 6) (.tmp 105) rfl (b := S + 1 + 1) (s := false) (n := 0) (t := false) (d := 0) rfl rfl HZ.out ?_))
       have I2 := I.out.putRat 8 rfl false 0 false 0 rfl
       exact bodyPost_ret (v := .tuple #[ratV false 0 false 0, .int .i64 (9 : Nat)]) (results_rat rfl rfl rfl (I2.rat 8 rfl)) rfl ⟨rfl, I2.bl⟩
      go_wp2_with fail
      refine (over_no (s := zq) (A := Aq) (c := cq) hLq.out fq w5).mono ?_
      rintro e w6 ⟨rfl, hw⟩
      replace I := Lib.hid (I.out.below hw)
      clear hw b0 b0' b1 b1'
      obtain ⟨b0, b0', b1, b1'⟩ := I.out.num 1 rfl
      obtain ⟨c0, c0', c1, c1'⟩ := I.out.num 2 rfl
      by_cases fr : Fits r
      rotate_left
      ·go_wp2_with fail
       refine (over_yes (s := zr) (A := Ar) (c := cr) hLr.out fr w6).mono ?_
       rintro e x1 ⟨rfl, hw⟩
       replace I := Lib.hid (I.out.below hw)
       clear hw b0 b0' b1 b1' c0 c0' c1 c1'
       obtain ⟨rfl, rfl, rfl, rfl⟩ := H.out.b4 rfl rfl (by first | exact id | exact hb2.out rfl | exact hb2.out trivial) (fun hf => fr hf.2.2.1)
       have HZ := Lib.hid (I.out.rat 8 rfl)
       go_wp2_with (first | (with_reducible refine wpList_build_zero rfl rfl ?_) | (with_reducible refine wpList_store_rat rfl (.tmp 6) (.tmp 105) rfl (b := S + 1 + 1) (s := false) (n := 0) (t := false) (d := 0) rfl rfl HZ.out ?_))
       have I2 := I.out.putRat 8 rfl false 0 false 0 rfl
       exact bodyPost_ret (v := .tuple #[ratV false 0 false 0, .int .i64 (9 : Nat)]) (results_rat rfl rfl rfl (I2.rat 8 rfl)) rfl ⟨rfl, I2.bl⟩
      go_wp2_with fail
      refine (over_no (s := zr) (A := Ar) (c := cr) hLr.out fr w6).mono ?_
      rintro e x1 ⟨rfl, hw⟩
      replace I := Lib.hid (I.out.below hw)
      clear hw b0 b0' b1 b1' c0 c0' c1 c1'
      obtain ⟨b0, b0', b1, b1'⟩ := I.out.num 1 rfl
      obtain ⟨c0, c0', c1, c1'⟩ := I.out.num 2 rfl
      by_cases fx : Fits x
      rotate_left
      ·go_wp2_with fail
       refine (over_yes (s := zx) (A := Ad) (c := cd) hLx.out fx x1).mono ?_
       rintro e x2 ⟨rfl, hw⟩
       replace I := Lib.hid (I.out.below hw)
       clear hw b0 b0' b1 b1' c0 c0' c1 c1'
       obtain ⟨rfl, rfl, rfl, rfl⟩ := H.out.b4 rfl rfl (by first | exact id | exact hb2.out rfl | exact hb2.out trivial) (fun hf => fx hf.2.2.2)
       have HZ := Lib.hid (I.out.rat 8 rfl)
       go_wp2_with (first | (with_reducible refine wpList_build_zero rfl rfl ?_) | (with_reducible refine wpList_store_rat rfl (.tmp 6) (.tmp 105) rfl (b := S + 1 + 1) (s := false) (n := 0) (t := false) (d := 0) rfl rfl HZ.out ?_))
       have I2 := I.out.putRat 8 rfl false 0 false 0 rfl
       exact bodyPost_ret (v := .tuple #[ratV false 0 false 0, .int .i64 (9 : Nat)]) (results_rat rfl rfl rfl (I2.rat 8 rfl)) rfl ⟨rfl, I2.bl⟩
      go_wp2_with fail
      refine (over_no (s := zx) (A := Ad) (c := cd) hLx.out fx x1).mono ?_
      rintro e x2 ⟨rfl, hw⟩
      replace I := Lib.hid (I.out.below hw)
      clear hw b0 b0' b1 b1' c0 c0' c1 c1'
      obtain ⟨b0, b0', b1, b1'⟩ := I.out.num 1 rfl
      obtain ⟨c0, c0', c1, c1'⟩ := I.out.num 2 rfl
      obtain ⟨h1, h2, h3, rfl, h5⟩ := H.out.ok rfl rfl (by first | exact id | exact hb2.out rfl | exact hb2.out trivial) ⟨fp, fq, fr, fx⟩
      have HLW := Lib.hid (lowest_run zr Ar Lr cr r zx Ad Lx cd x Z N D x2 (I.out.dig 0 rfl) (I.out.dig 3 rfl) fr fx h5 h1 h2 h3)
      clear h1 h2 h3 h5
      go_wp2_with fail
      refine HLW.out.mono ?_
      rintro e x3 ⟨rfl, hw⟩
      replace I := Lib.hid (I.out.below hw)
      clear hw HLW b0 b0' b1 b1' c0 c0' c1 c1'
      have HZ := Lib.hid (I.out.rat 8 rfl)
      go_wp2_with (with_reducible refine wpList_store_rat rfl (.tmp 6) (.tmp 108) rfl (b := S + 1 + 1) (s := Z) (n := N) (t := false) (d := D) rfl rfl HZ.out ?_)
      have I2 := I.out.putRat 8 rfl Z N false D rfl
      exact bodyPost_ret (v := .tuple #[ratV Z N false D, .int .i64 (0 : Nat)]) (results_rat rfl rfl rfl (I2.rat 8 rfl)) rfl ⟨rfl, I2.bl⟩
     ·have H := Lib.hid (H1.out rfl)
      clear H0 H1 H2 H3
      obtain ⟨r, hr⟩ : ∃ r, addN zp p (sgn (!zq) q) q = r := ⟨_, rfl⟩
      obtain ⟨Lr, hLr⟩ : ∃ L, nl r = L := ⟨_, rfl⟩
      obtain ⟨zr, hzr⟩ : ∃ z, sgn (addS zp p (sgn (!zq) q) q) (addN zp p (sgn (!zq) q) q) = z := ⟨_, rfl⟩
      have HAD := Lib.hid (fun W A c B e ha hb => Sub_out (L := Lp) (L' := Lq) (by omega) hzr hr hLr W A c B e ha hb)
      rw [hzr, hr] at H
      replace hLr := Lib.hid hLr
      clear hr hzr
      obtain ⟨a0, a0', a1, a1'⟩ := I.out.num 3 rfl
      obtain ⟨b0, b0', b1, b1'⟩ := I.out.num 5 rfl
      have HAX := Lib.hid (HAD.out wc _ _ _ _ (I.out.dig 6 rfl) (I.out.dig 4 rfl))
      go_wp2_with fail
      refine HAX.out.mono ?_
      rintro e w3 ⟨⟨Ar, cr⟩, rfl, hgg, hw⟩
      replace I := Lib.hid ((I.out.below hw).pushDig hgg)
      clear hw hgg HAX HAD a0 a0' a1 a1' b0 b0' b1 b1'
      obtain ⟨a0, a0', a1, a1'⟩ := I.out.num 1 rfl
      have I2 := I.out.putNum 1 rfl zr Ar Lr cr rfl
      go_upto_region 15 with fail
      clear a0 a0' a1 a1'
      show Code.wp _ _ _ _ (st2 w3 Kn zr Ar Lr cr)
      generalize st2 w3 Kn zr Ar Lr cr = w4 at *
      replace I := Lib.hid I2
      clear I2
      obtain ⟨b0, b0', b1, b1'⟩ := I.out.num 6 rfl
      by_cases fp : Fits p
      rotate_left
      ·go_wp2_with fail
       refine (over_yes (s := zp) (A := Ap) (c := cp) hLp.out fp w4).mono ?_
       rintro e w5 ⟨rfl, hw⟩
       replace I := Lib.hid (I.out.below hw)
       clear hw b0 b0' b1 b1'
       obtain ⟨rfl, rfl, rfl, rfl⟩ := H.out.b4 rfl rfl (by first | exact id | exact hb2.out rfl | exact hb2.out trivial) (fun hf => fp hf.1)
       have HZ := Lib.hid (I.out.rat 8 rfl)
       go_wp2_with (first | (with_reducible refine wpList_build_zero rfl rfl ?_) | (with_reducible refine wpList_store_rat rfl (.tmp 6) (.tmp 105) rfl (b := S + 1 + 1) (s := false) (n := 0) (t := false) (d := 0) rfl rfl HZ.out ?_))
       have I2 := I.out.putRat 8 rfl false 0 false 0 rfl
       exact bodyPost_ret (v := .tuple #[ratV false 0 false 0, .int .i64 (9 : Nat)]) (results_rat rfl rfl rfl (I2.rat 8 rfl)) rfl ⟨rfl, I2.bl⟩
      go_wp2_with fail
      refine (over_no (s := zp) (A := Ap) (c := cp) hLp.out fp w4).mono ?_
      rintro e w5 ⟨rfl, hw⟩
      replace I := Lib.hid (I.out.below hw)
      clear hw b0 b0' b1 b1'
      obtain ⟨b0, b0', b1, b1'⟩ := I.out.num 4 rfl
      by_cases fq : Fits q
      rotate_left
      ·go_wp2_with fail
       refine (over_yes (s := zq) (A := Aq) (c := cq) hLq.out fq w5).mono ?_
       rintro e w6 ⟨rfl, hw⟩
       replace I := Lib.hid (I.out.below hw)
       clear hw b0 b0' b1 b1'
       obtain ⟨rfl, rfl, rfl, rfl⟩ := H.out.b4 rfl rfl (by first | exact id | exact hb2.out rfl | exact hb2.out trivial) (fun hf => fq hf.2.1)
       have HZ := Lib.hid (I.out.rat 8 rfl)
       go_wp2_with (first | (with_reducible refine wpList_build_zero rfl rfl ?_) | (with_reducible refine wpList_store_rat rfl (.tmp 6) (.tmp 105) rfl (b := S + 1 + 1) (s := false) (n := 0) (t := false) (d := 0) rfl rfl HZ.out ?_))
       have I2 := I.out.putRat 8 rfl false 0 false 0 rfl
       exact bodyPost_ret (v := .tuple #[ratV false 0 false 0, .int .i64 (9 : Nat)]) (results_rat rfl rfl rfl (I2.rat 8 rfl)) rfl ⟨rfl, I2.bl⟩
      go_wp2_with fail
      refine (over_no (s := zq) (A := Aq) (c := cq) hLq.out fq w5).mono ?_
      rintro e w6 ⟨rfl, hw⟩
      replace I := Lib.hid (I.out.below hw)
      clear hw b0 b0' b1 b1'
      obtain ⟨b0, b0', b1, b1'⟩ := I.out.num 1 rfl
      obtain ⟨c0, c0', c1, c1'⟩ := I.out.num 2 rfl
      by_cases fr : Fits r
      rotate_left
      ·go_wp2_with fail
       refine (over_yes (s := zr) (A := Ar) (c := cr) hLr.out fr w6).mono ?_
       rintro e x1 ⟨rfl, hw⟩
       replace I := Lib.hid (I.out.below hw)
       clear hw b0 b0' b1 b1' c0 c0' c1 c1'
       obtain ⟨rfl, rfl, rfl, rfl⟩ := H.out.b4 rfl rfl (by first | exact id | exact hb2.out rfl | exact hb2.out trivial) (fun hf => fr hf.2.2.1)
       have HZ := Lib.hid (I.out.rat 8 rfl)
       go_wp2_with (first | (with_reducible refine wpList_build_zero rfl rfl ?_) | (with_reducible refine wpList_store_rat rfl (.tmp 6) (.tmp 105) rfl (b := S + 1 + 1) (s := false) (n := 0) (t := false) (d := 0) rfl rfl HZ.out ?_))
       have I2 := I.out.putRat 8 rfl false 0 false 0 rfl
       exact bodyPost_ret (v := .tuple #[ratV false 0 false 0, .int .i64 (9 : Nat)]) (results_rat rfl rfl rfl (I2.rat 8 rfl)) rfl ⟨rfl, I2.bl⟩
      go_wp2_with fail
      refine (over_no (s := zr) (A := Ar) (c := cr) hLr.out fr w6).mono ?_
      rintro e x1 ⟨rfl, hw⟩
      replace I := Lib.hid (I.out.below hw)
      clear hw b0 b0' b1 b1' c0 c0' c1 c1'
      obtain ⟨b0, b0', b1, b1'⟩ := I.out.num 1 rfl
      obtain ⟨c0, c0', c1, c1'⟩ := I.out.num 2 rfl
      by_cases fx : Fits x
      rotate_left
      ·go_wp2_with fail
       refine (over_yes (s := zx) (A := Ad) (c := cd) hLx.out fx x1).mono ?_
       rintro e x2 ⟨rfl, hw⟩
       replace I := Lib.hid (I.out.below hw)
       clear hw b0 b0' b1 b1' c0 c0' c1 c1'
       obtain ⟨rfl, rfl, rfl, rfl⟩ := H.out.b4 rfl rfl (by first | exact id | exact hb2.out rfl | exact hb2.out trivial) (fun hf => fx hf.2.2.2)
       have HZ := Lib.hid (I.out.rat 8 rfl)
       go_wp2_with (first | (with_reducible refine wpList_build_zero rfl rfl ?_) | (with_reducible refine wpList_store_rat rfl (.tmp 6) (.tmp 105) rfl (b := S + 1 + 1) (s := false) (n := 0) (t := false) (d := 0) rfl rfl HZ.out ?_))
       have I2 := I.out.putRat 8 rfl false 0 false 0 rfl
       exact bodyPost_ret (v := .tuple #[ratV false 0 false 0, .int .i64 (9 : Nat)]) (results_rat rfl rfl rfl (I2.rat 8 rfl)) rfl ⟨rfl, I2.bl⟩
      go_wp2_with fail
      refine (over_no (s := zx) (A := Ad) (c := cd) hLx.out fx x1).mono ?_
      rintro e x2 ⟨rfl, hw⟩
      replace I := Lib.hid (I.out.below hw)
      clear hw b0 b0' b1 b1' c0 c0' c1 c1'
      obtain ⟨b0, b0', b1, b1'⟩ := I.out.num 1 rfl
      obtain ⟨c0, c0', c1, c1'⟩ := I.out.num 2 rfl
      obtain ⟨h1, h2, h3, rfl, h5⟩ := H.out.ok rfl rfl (by first | exact id | exact hb2.out rfl | exact hb2.out trivial) ⟨fp, fq, fr, fx⟩
      have HLW := Lib.hid (lowest_run zr Ar Lr cr r zx Ad Lx cd x Z N D x2 (I.out.dig 0 rfl) (I.out.dig 3 rfl) fr fx h5 h1 h2 h3)
      clear h1 h2 h3 h5
      go_wp2_with fail
      refine HLW.out.mono ?_
      rintro e x3 ⟨rfl, hw⟩
      replace I := Lib.hid (I.out.below hw)
      clear hw HLW b0 b0' b1 b1' c0 c0' c1 c1'
      have HZ := Lib.hid (I.out.rat 8 rfl)
      go_wp2_with (with_reducible refine wpList_store_rat rfl (.tmp 6) (.tmp 108) rfl (b := S + 1 + 1) (s := Z) (n := N) (t := false) (d := D) rfl rfl HZ.out ?_)
      have I2 := I.out.putRat 8 rfl Z N false D rfl
      exact bodyPost_ret (v := .tuple #[ratV Z N false D, .int .i64 (0 : Nat)]) (results_rat rfl rfl rfl (I2.rat 8 rfl)) rfl ⟨rfl, I2.bl⟩
     ·have H := Lib.hid (H2.out rfl)
      clear H0 H1 H2 H3
      go_upto_region 17 with fail
      refine rg_begin (fun V => Bs w S [.rat (S + 1) s' n' t' d', .rat S s n t d] V) (by kernel_rfl) ((I.out.sub (.cons _ (.cons _ (.cons _ (.cons _ (.cons _ (.cons _ (.cons _ (.cons _ (.cons_cons _ (.cons_cons _ .slnil))))))))))).drew) (fun hS => ?_)
      refine rg_take 0 (.pointer (some ⟨S, 0, none⟩)) rfl (by kernel_rfl) (by kernel_rfl) (by kernel_rfl) (fun _ _ _ h => h) rfl (fun w _ => ?_) hS ?_
      ·go_simp
      simp only [zA, zB, zC, Act.put, zD, zE, zF]
      refine rg_take 1 (intV s n) rfl (by kernel_rfl) (by kernel_rfl) (by kernel_rfl) (fun _ _ _ h => h) rfl (fun w hSw => ld_int (.tmp 80) rfl rfl (hSw.rat 1 rfl).num) hS ?_
      simp only [zA, zB, zC, Act.put, zD, zE, zF]
      refine rg_take 3 (.pointer (some ⟨S + 1, 0, none⟩)) rfl (by kernel_rfl) (by kernel_rfl) (by kernel_rfl) (fun _ _ _ h => h) rfl (fun w _ => ?_) hS ?_
      ·go_simp
      simp only [zA, zB, zC, Act.put, zD, zE, zF]
      refine rg_take 4 (intV s' n') rfl (by kernel_rfl) (by kernel_rfl) (by kernel_rfl) (fun _ _ _ h => h) rfl (fun w hSw => ld_int (.tmp 83) rfl rfl (hSw.rat 0 rfl).num) hS ?_
      simp only [zA, zB, zC, Act.put, zD, zE, zF]
      replace hS := I.out.drew
      clear I
      generalize wc.drew = V0 at *
      refine rg_one 2 (by kernel_rfl) ?_
      refine rs_of rfl rfl (wp_callx rfl enters_num8 rfl (HN1.out _) (fun q2 V1 hV => ⟨(hS.sub (.cons _ (.cons _ (.cons _ (.cons _ (.cons _ (.cons _ (.cons _ (.cons _ (.cons_cons _ (.cons_cons _ .slnil))))))))))).below hV.2, ?_⟩))
      obtain ⟨A2, c2⟩ := q2
      obtain ⟨hg2, hV⟩ := hV
      replace hS := (hS.below hV).pushDig hg2
      clear hV hg2
      simp only [zA, zB, zC, Act.put, zD, zE, zF]
      refine rg_one 5 (by kernel_rfl) ?_
      refine rs_of rfl rfl (wp_callx rfl enters_num8 rfl (HN3.out _) (fun q5 V2 hV => ⟨(hS.sub (.cons _ (.cons _ (.cons _ (.cons _ (.cons _ (.cons _ (.cons _ (.cons _ (.cons _ (.cons_cons _ (.cons_cons _ .slnil)))))))))))).below hV.2, ?_⟩))
      obtain ⟨A5, c5⟩ := q5
      obtain ⟨hg5, hV⟩ := hV
      replace hS := (hS.below hV).pushDig hg5
      clear hV hg5
      simp only [zA, zB, zC, Act.put, zD, zE, zF]
      refine rg_one 6 (by kernel_rfl) ?_
      refine rs_of rfl rfl (wp_callx rfl enters_mul7 rfl (HM4.out _ _ _ _ _ (hS.dig 1 rfl) (hS.dig 0 rfl)) (fun q6 V3 hV => ⟨(hS.sub (.cons _ (.cons _ (.cons _ (.cons _ (.cons _ (.cons _ (.cons _ (.cons _ (.cons _ (.cons _ (.cons_cons _ (.cons_cons _ .slnil))))))))))))).below hV.2, ?_⟩))
      obtain ⟨A6, c6⟩ := q6
      obtain ⟨hg6, hV⟩ := hV
      replace hS := (hS.below hV).pushDig hg6
      clear hV hg6
      simp only [zA, zB, zC, Act.put, zD, zE, zF]
      refine rg_one 7 (by kernel_rfl) ?_
      have hSn := hS.putNum 3 rfl (zy) (A6) (Ly) (c6) rfl
      refine rs_of rfl rfl (stores_num (.tmp 10) (.tmp 86) rfl (t := zy) (B := A6) (M := Ly) (cb := c6) rfl rfl (hS.num 3 rfl) ⟨hSn.sub (.cons _ (.cons _ (.cons _ (.cons _ (.cons _ (.cons _ (.cons _ (.cons _ (.cons _ (.cons _ (.cons _ (.cons_cons _ (.cons_cons _ .slnil))))))))))))), ?_⟩)
      replace hS := hSn
      clear hSn
      simp only [zA, zB, zC, Act.put, zD, zE, zF]
      generalize st2 V3 Kn (zy) (A6) (Ly) (c6) = V4 at *
      refine wpAnyH_done (by kernel_rfl) ?_ _
      replace hS := hS.sub (l' := [.dig zy A6 Ly c6 y, .num Kn zy A6 Ly c6, .num Kd zx Ad Lx cd, .dig zx Ad Lx cd x, .num Kq zq Aq Lq cq, .dig zq Aq Lq cq q, .num Kp zp Ap Lp cp, .dig zp Ap Lp cp p, .rat (S + 1 + 1) false 0 false 0, .rat (S + 1) s' n' t' d', .rat S s n t d]) (.cons_cons _ (.cons _ (.cons _ (.cons_cons _ (.cons_cons _ (.cons_cons _ (.cons_cons _ (.cons_cons _ (.cons_cons _ (.cons_cons _ (.cons_cons _ (.cons_cons _ (.cons_cons _ .slnil)))))))))))))
      have I := Lib.hid hS
      clear hS
      obtain ⟨b0, b0', b1, b1'⟩ := I.out.num 1 rfl
      obtain ⟨c0, c0', c1, c1'⟩ := I.out.num 2 rfl
      by_cases fr : Fits y
      rotate_left
      ·go_wp2_with fail
       refine (over_yes (s := zy) (A := A6) (c := c6) hLy.out fr V4).mono ?_
       rintro e x1 ⟨rfl, hw⟩
       replace I := Lib.hid (I.out.below hw)
       clear hw b0 b0' b1 b1' c0 c0' c1 c1'
       obtain ⟨rfl, rfl, rfl, rfl⟩ := H.out.b4 rfl rfl (by first | exact id | exact hb2.out rfl | exact hb2.out trivial) (fun hf => fr hf.1)
       have HZ := Lib.hid (I.out.rat 8 rfl)
       go_wp2_with (first | (with_reducible refine wpList_build_zero rfl rfl ?_) | (with_reducible refine wpList_store_rat rfl (.tmp 6) (.tmp 105) rfl (b := S + 1 + 1) (s := false) (n := 0) (t := false) (d := 0) rfl rfl HZ.out ?_))
       have I2 := I.out.putRat 8 rfl false 0 false 0 rfl
       exact bodyPost_ret (v := .tuple #[ratV false 0 false 0, .int .i64 (9 : Nat)]) (results_rat rfl rfl rfl (I2.rat 8 rfl)) rfl ⟨rfl, I2.bl⟩
      go_wp2_with fail
      refine (over_no (s := zy) (A := A6) (c := c6) hLy.out fr V4).mono ?_
      rintro e x1 ⟨rfl, hw⟩
      replace I := Lib.hid (I.out.below hw)
      clear hw b0 b0' b1 b1' c0 c0' c1 c1'
      obtain ⟨b0, b0', b1, b1'⟩ := I.out.num 1 rfl
      obtain ⟨c0, c0', c1, c1'⟩ := I.out.num 2 rfl
      by_cases fx : Fits x
      rotate_left
      ·go_wp2_with fail
       refine (over_yes (s := zx) (A := Ad) (c := cd) hLx.out fx x1).mono ?_
       rintro e x2 ⟨rfl, hw⟩
       replace I := Lib.hid (I.out.below hw)
       clear hw b0 b0' b1 b1' c0 c0' c1 c1'
       obtain ⟨rfl, rfl, rfl, rfl⟩ := H.out.b4 rfl rfl (by first | exact id | exact hb2.out rfl | exact hb2.out trivial) (fun hf => fx hf.2)
       have HZ := Lib.hid (I.out.rat 8 rfl)
       go_wp2_with (first | (with_reducible refine wpList_build_zero rfl rfl ?_) | (with_reducible refine wpList_store_rat rfl (.tmp 6) (.tmp 105) rfl (b := S + 1 + 1) (s := false) (n := 0) (t := false) (d := 0) rfl rfl HZ.out ?_))
       have I2 := I.out.putRat 8 rfl false 0 false 0 rfl
       exact bodyPost_ret (v := .tuple #[ratV false 0 false 0, .int .i64 (9 : Nat)]) (results_rat rfl rfl rfl (I2.rat 8 rfl)) rfl ⟨rfl, I2.bl⟩
      go_wp2_with fail
      refine (over_no (s := zx) (A := Ad) (c := cd) hLx.out fx x1).mono ?_
      rintro e x2 ⟨rfl, hw⟩
      replace I := Lib.hid (I.out.below hw)
      clear hw b0 b0' b1 b1' c0 c0' c1 c1'
      obtain ⟨b0, b0', b1, b1'⟩ := I.out.num 1 rfl
      obtain ⟨c0, c0', c1, c1'⟩ := I.out.num 2 rfl
      obtain ⟨h1, h2, h3, rfl, h5⟩ := H.out.ok rfl rfl (by first | exact id | exact hb2.out rfl | exact hb2.out trivial) ⟨fr, fx⟩
      have HLW := Lib.hid (lowest_run zy A6 Ly c6 y zx Ad Lx cd x Z N D x2 (I.out.dig 0 rfl) (I.out.dig 3 rfl) fr fx h5 h1 h2 h3)
      clear h1 h2 h3 h5
      go_wp2_with fail
      refine HLW.out.mono ?_
      rintro e x3 ⟨rfl, hw⟩
      replace I := Lib.hid (I.out.below hw)
      clear hw HLW b0 b0' b1 b1' c0 c0' c1 c1'
      have HZ := Lib.hid (I.out.rat 8 rfl)
      go_wp2_with (with_reducible refine wpList_store_rat rfl (.tmp 6) (.tmp 108) rfl (b := S + 1 + 1) (s := Z) (n := N) (t := false) (d := D) rfl rfl HZ.out ?_)
      have I2 := I.out.putRat 8 rfl Z N false D rfl
      exact bodyPost_ret (v := .tuple #[ratV Z N false D, .int .i64 (0 : Nat)]) (results_rat rfl rfl rfl (I2.rat 8 rfl)) rfl ⟨rfl, I2.bl⟩
     ·have H := Lib.hid (H3.out rfl)
      clear H0 H1 H2 H3
      go_upto_region 19 with fail
      refine rg_begin (fun V => Bs w S [.rat (S + 1) s' n' t' d', .rat S s n t d] V) (by kernel_rfl) ((I.out.sub (.cons _ (.cons _ (.cons _ (.cons _ (.cons _ (.cons _ (.cons _ (.cons _ (.cons_cons _ (.cons_cons _ .slnil))))))))))).drew) (fun hS => ?_)
      refine rg_take 0 (.pointer (some ⟨S, 9, none⟩)) rfl (by kernel_rfl) (by kernel_rfl) (by kernel_rfl) (fun _ _ _ h => h) rfl (fun w _ => ?_) hS ?_
      ·go_simp
      simp only [zA, zB, zC, Act.put, zD, zE, zF]
      refine rg_take 1 (intV t d) rfl (by kernel_rfl) (by kernel_rfl) (by kernel_rfl) (fun _ _ _ h => h) rfl (fun w hSw => ld_int (.tmp 89) rfl rfl (hSw.rat 1 rfl).den) hS ?_
      simp only [zA, zB, zC, Act.put, zD, zE, zF]
      refine rg_take 3 (.pointer (some ⟨S + 1, 0, none⟩)) rfl (by kernel_rfl) (by kernel_rfl) (by kernel_rfl) (fun _ _ _ h => h) rfl (fun w _ => ?_) hS ?_
      ·go_simp
      simp only [zA, zB, zC, Act.put, zD, zE, zF]
      refine rg_take 4 (intV s' n') rfl (by kernel_rfl) (by kernel_rfl) (by kernel_rfl) (fun _ _ _ h => h) rfl (fun w hSw => ld_int (.tmp 92) rfl rfl (hSw.rat 0 rfl).num) hS ?_
      simp only [zA, zB, zC, Act.put, zD, zE, zF]
      replace hS := I.out.drew
      clear I
      generalize wc.drew = V0 at *
      refine rg_one 2 (by kernel_rfl) ?_
      refine rs_of rfl rfl (wp_callx rfl enters_num8 rfl (HN2.out _) (fun q2 V1 hV => ⟨(hS.sub (.cons _ (.cons _ (.cons _ (.cons _ (.cons _ (.cons _ (.cons _ (.cons _ (.cons_cons _ (.cons_cons _ .slnil))))))))))).below hV.2, ?_⟩))
      obtain ⟨A2, c2⟩ := q2
      obtain ⟨hg2, hV⟩ := hV
      replace hS := (hS.below hV).pushDig hg2
      clear hV hg2
      simp only [zA, zB, zC, Act.put, zD, zE, zF]
      refine rg_one 5 (by kernel_rfl) ?_
      refine rs_of rfl rfl (wp_callx rfl enters_num8 rfl (HN3.out _) (fun q5 V2 hV => ⟨(hS.sub (.cons _ (.cons _ (.cons _ (.cons _ (.cons _ (.cons _ (.cons _ (.cons _ (.cons _ (.cons_cons _ (.cons_cons _ .slnil)))))))))))).below hV.2, ?_⟩))
      obtain ⟨A5, c5⟩ := q5
      obtain ⟨hg5, hV⟩ := hV
      replace hS := (hS.below hV).pushDig hg5
      clear hV hg5
      simp only [zA, zB, zC, Act.put, zD, zE, zF]
      refine rg_one 6 (by kernel_rfl) ?_
      refine rs_of rfl rfl (wp_callx rfl enters_mul7 rfl (HM5.out _ _ _ _ _ (hS.dig 1 rfl) (hS.dig 0 rfl)) (fun q6 V3 hV => ⟨(hS.sub (.cons _ (.cons _ (.cons _ (.cons _ (.cons _ (.cons _ (.cons _ (.cons _ (.cons _ (.cons _ (.cons_cons _ (.cons_cons _ .slnil))))))))))))).below hV.2, ?_⟩))
      obtain ⟨A6, c6⟩ := q6
      obtain ⟨hg6, hV⟩ := hV
      replace hS := (hS.below hV).pushDig hg6
      clear hV hg6
      simp only [zA, zB, zC, Act.put, zD, zE, zF]
      refine rg_one 7 (by kernel_rfl) ?_
      have hSn := hS.putNum 4 rfl (zv) (A6) (Lv) (c6) rfl
      refine rs_of rfl rfl (stores_num (.tmp 11) (.tmp 95) rfl (t := zv) (B := A6) (M := Lv) (cb := c6) rfl rfl (hS.num 4 rfl) ⟨hSn.sub (.cons _ (.cons _ (.cons _ (.cons _ (.cons _ (.cons _ (.cons _ (.cons _ (.cons _ (.cons _ (.cons _ (.cons_cons _ (.cons_cons _ .slnil))))))))))))), ?_⟩)
      replace hS := hSn
      clear hSn
      simp only [zA, zB, zC, Act.put, zD, zE, zF]
      generalize st2 V3 Kd (zv) (A6) (Lv) (c6) = V4 at *
      refine wpAnyH_done (by kernel_rfl) ?_ _
      replace hS := hS.sub (l' := [.dig zv A6 Lv c6 v, .num Kn zp Ap Lp cp, .num Kd zv A6 Lv c6, .dig zx Ad Lx cd x, .num Kq zq Aq Lq cq, .dig zq Aq Lq cq q, .num Kp zp Ap Lp cp, .dig zp Ap Lp cp p, .rat (S + 1 + 1) false 0 false 0, .rat (S + 1) s' n' t' d', .rat S s n t d]) (.cons_cons _ (.cons _ (.cons _ (.cons_cons _ (.cons_cons _ (.cons_cons _ (.cons_cons _ (.cons_cons _ (.cons_cons _ (.cons_cons _ (.cons_cons _ (.cons_cons _ (.cons_cons _ .slnil)))))))))))))
      have I := Lib.hid hS
      clear hS
      obtain ⟨b0, b0', b1, b1'⟩ := I.out.num 1 rfl
      obtain ⟨c0, c0', c1, c1'⟩ := I.out.num 2 rfl
      by_cases fr : Fits p
      rotate_left
      ·go_wp2_with fail
       refine (over_yes (s := zp) (A := Ap) (c := cp) hLp.out fr V4).mono ?_
       rintro e x1 ⟨rfl, hw⟩
       replace I := Lib.hid (I.out.below hw)
       clear hw b0 b0' b1 b1' c0 c0' c1 c1'
       obtain ⟨rfl, rfl, rfl, rfl⟩ := H.out.b4 rfl rfl (by first | exact id | exact hb2.out rfl | exact hb2.out trivial) (fun hf => fr hf.1)
       have HZ := Lib.hid (I.out.rat 8 rfl)
       go_wp2_with (first | (with_reducible refine wpList_build_zero rfl rfl ?_) | (with_reducible refine wpList_store_rat rfl (.tmp 6) (.tmp 105) rfl (b := S + 1 + 1) (s := false) (n := 0) (t := false) (d := 0) rfl rfl HZ.out ?_))
       have I2 := I.out.putRat 8 rfl false 0 false 0 rfl
       exact bodyPost_ret (v := .tuple #[ratV false 0 false 0, .int .i64 (9 : Nat)]) (results_rat rfl rfl rfl (I2.rat 8 rfl)) rfl ⟨rfl, I2.bl⟩
      go_wp2_with fail
      refine (over_no (s := zp) (A := Ap) (c := cp) hLp.out fr V4).mono ?_
      rintro e x1 ⟨rfl, hw⟩
      replace I := Lib.hid (I.out.below hw)
      clear hw b0 b0' b1 b1' c0 c0' c1 c1'
      obtain ⟨b0, b0', b1, b1'⟩ := I.out.num 1 rfl
      obtain ⟨c0, c0', c1, c1'⟩ := I.out.num 2 rfl
      by_cases fx : Fits v
      rotate_left
      ·go_wp2_with fail
       refine (over_yes (s := zv) (A := A6) (c := c6) hLv.out fx x1).mono ?_
       rintro e x2 ⟨rfl, hw⟩
       replace I := Lib.hid (I.out.below hw)
       clear hw b0 b0' b1 b1' c0 c0' c1 c1'
       obtain ⟨rfl, rfl, rfl, rfl⟩ := H.out.b4 rfl rfl (by first | exact id | exact hb2.out rfl | exact hb2.out trivial) (fun hf => fx hf.2)
       have HZ := Lib.hid (I.out.rat 8 rfl)
       go_wp2_with (first | (with_reducible refine wpList_build_zero rfl rfl ?_) | (with_reducible refine wpList_store_rat rfl (.tmp 6) (.tmp 105) rfl (b := S + 1 + 1) (s := false) (n := 0) (t := false) (d := 0) rfl rfl HZ.out ?_))
       have I2 := I.out.putRat 8 rfl false 0 false 0 rfl
       exact bodyPost_ret (v := .tuple #[ratV false 0 false 0, .int .i64 (9 : Nat)]) (results_rat rfl rfl rfl (I2.rat 8 rfl)) rfl ⟨rfl, I2.bl⟩
      go_wp2_with fail
      refine (over_no (s := zv) (A := A6) (c := c6) hLv.out fx x1).mono ?_
      rintro e x2 ⟨rfl, hw⟩
      replace I := Lib.hid (I.out.below hw)
      clear hw b0 b0' b1 b1' c0 c0' c1 c1'
      obtain ⟨b0, b0', b1, b1'⟩ := I.out.num 1 rfl
      obtain ⟨c0, c0', c1, c1'⟩ := I.out.num 2 rfl
      obtain ⟨h1, h2, h3, rfl, h5⟩ := H.out.ok rfl rfl (by first | exact id | exact hb2.out rfl | exact hb2.out trivial) ⟨fr, fx⟩
      have HLW := Lib.hid (lowest_run zp Ap Lp cp p zv A6 Lv c6 v Z N D x2 (I.out.dig 7 rfl) (I.out.dig 0 rfl) fr fx h5 h1 h2 h3)
      clear h1 h2 h3 h5
      go_wp2_with fail
      refine HLW.out.mono ?_
      rintro e x3 ⟨rfl, hw⟩
      replace I := Lib.hid (I.out.below hw)
      clear hw HLW b0 b0' b1 b1' c0 c0' c1 c1'
      have HZ := Lib.hid (I.out.rat 8 rfl)
      go_wp2_with (with_reducible refine wpList_store_rat rfl (.tmp 6) (.tmp 108) rfl (b := S + 1 + 1) (s := Z) (n := N) (t := false) (d := D) rfl rfl HZ.out ?_)
      have I2 := I.out.putRat 8 rfl Z N false D rfl
      exact bodyPost_ret (v := .tuple #[ratV Z N false D, .int .i64 (0 : Nat)]) (results_rat rfl rfl rfl (I2.rat 8 rfl)) rfl ⟨rfl, I2.bl⟩
theorem Do_run2 (s : Bool) (n : Nat) (t : Bool) (d : Nat) (s' : Bool) (n' : Nat) (t' : Bool) (d' : Nat) (Z : Bool) (N D K : Nat) (w : World) (hn : Hid (Fits n)) (hd : Hid (Fits d)) (hn' : Hid (Fits n')) (hd' : Hid (Fits d'))
  (H : Hid (DoIs (chk s n t d) (chk s' n' t' d') (sgn (sgn s n != sgn s' n') (n * n')) (n * n') (sgn (sgn t d != sgn t' d') (d * d')) (d * d') (False) (Fits (n * n') ∧ Fits (d * d')) Z N D K)) :
  Calls Tryz.prog 115 #[ratV s n t d, ratV s' n' t' d', .int .i64 2] w fun e w' => e = .returned (.tuple #[ratV Z N false D, .int .i64 (K : Int)]) ∧ Below w.heap.size w w' :=
 Do_all 2 s n t d s' n' t' d' Z N D K w hn hd hn' hd' (by decide) H.out.b1 H.out.b2 (fun h => absurd h (by decide)) (fun h => absurd h (by decide)) (fun _ => H.out) (fun h => absurd h (by decide))
theorem Do_run3 (s : Bool) (n : Nat) (t : Bool) (d : Nat) (s' : Bool) (n' : Nat) (t' : Bool) (d' : Nat) (Z : Bool) (N D K : Nat) (w : World) (hn : Hid (Fits n)) (hd : Hid (Fits d)) (hn' : Hid (Fits n')) (hd' : Hid (Fits d'))
  (H : Hid (DoIs (chk s n t d) (chk s' n' t' d') (sgn (sgn s n != sgn t' d') (n * d')) (n * d') (sgn (sgn t d != sgn s' n') (d * n')) (d * n') (n' = 0) (Fits (n * d') ∧ Fits (d * n')) Z N D K)) :
  Calls Tryz.prog 115 #[ratV s n t d, ratV s' n' t' d', .int .i64 3] w fun e w' => e = .returned (.tuple #[ratV Z N false D, .int .i64 (K : Int)]) ∧ Below w.heap.size w w' :=
 Do_all 3 s n t d s' n' t' d' Z N D K w hn hd hn' hd' (by decide) H.out.b1 H.out.b2 (fun h => absurd h (by decide)) (fun h => absurd h (by decide)) (fun h => absurd h (by decide)) (fun _ => H.out)
end Go.Proofs.YtgoemhcngmpfbaaGreatDoor
