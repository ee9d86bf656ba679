/-
  The document's Cmp of two ratios.
-/
import Derived.Test.YtbcnpajdmlbieaaGreatDoorMg27

namespace Go.Proofs.YtbcnpajdmlbieaaGreatDoor
open Go.RowKit Go.Sort
set_option linter.unusedSimpArgs false

structure CmpIs (ka kb : Nat) (zp : Bool) (p : Nat) (zq : Bool) (q : Nat) (c : Int) (K : Nat) : Prop where
  b1 : ka ≠ 0 → c = 0 ∧ K = 8
  b2 : kb ≠ 0 → c = 0 ∧ K = 8
  b4 : ka = 0 → kb = 0 → ¬ (Fits p ∧ Fits q) → c = 0 ∧ K = 9
  ok : ka = 0 → kb = 0 → Fits p → Fits q → cmpS zp p zq q = c ∧ K = 0
set_option maxRecDepth 100000 in
set_option maxHeartbeats 8000000 in
theorem Cmp_run8 (s : Bool) (n : Nat) (t : Bool) (d : Nat) (s' : Bool) (n' : Nat) (t' : Bool) (d' : Nat) (c : Int) (K : Nat) (w : World) (hn : Hid (Fits n)) (hd : Hid (Fits d)) (hn' : Hid (Fits n')) (hd' : Hid (Fits d'))
    (H : Hid (CmpIs (chk s n t d) (chk s' n' t' d') (sgn (sgn s n != sgn t' d') (n * d')) (n * d') (sgn (sgn s' n' != sgn t d) (n' * d)) (n' * d) c K)) :
    Calls Tryz.prog 26 #[ratV s n t d, ratV s' n' t' d'] w fun e w' => e = .returned (.tuple #[.int .i64 c, .int .i64 (K : Int)]) ∧ Below w.heap.size w w' := by
  obtain ⟨S, hS⟩ : ∃ S, w.heap.size = S := ⟨_, rfl⟩
  obtain ⟨W0, hW0⟩ : ∃ W, (w.alloc (boxR s n t d 27)).alloc (boxR s' n' t' d' 27) = W := ⟨_, rfl⟩
  have I := ((Bs.start w hS).pushRat hS s n t d 27).pushRat (k := S + 1) (by simp [hS]) s' n' t' d' 27
  rw [hW0] at I
  replace I := Lib.hid I
  obtain ⟨k1, hk1⟩ : ∃ k, chk s n t d = k := ⟨_, rfl⟩
  obtain ⟨k2, hk2⟩ : ∃ k, chk s' n' t' d' = k := ⟨_, rfl⟩
  have HC1 := Lib.hid (fun W => Check_run8 s n t d k1 W hn hd hk1)
  have HC2 := Lib.hid (fun W => Check_run8 s' n' t' d' k2 W hn' hd' hk2)
  have hk8 : k1 = 0 ∨ k1 = 8 := by rw [← hk1]; exact chk_le s n t d
  have hj8 : k2 = 0 ∨ k2 = 8 := by rw [← hk2]; exact chk_le s' n' t' d'
  rw [hk1, hk2] at H
  clear hk1 hk2
  obtain ⟨z1, hz1⟩ : ∃ z, sgn s n = z := ⟨_, rfl⟩
  obtain ⟨z2, hz2⟩ : ∃ z, sgn t d = z := ⟨_, rfl⟩
  obtain ⟨z3, hz3⟩ : ∃ z, sgn s' n' = z := ⟨_, rfl⟩
  obtain ⟨z4, hz4⟩ : ∃ z, sgn t' d' = z := ⟨_, rfl⟩
  obtain ⟨L1, hL1⟩ : ∃ L, nl n = L := ⟨_, rfl⟩
  obtain ⟨L2, hL2⟩ : ∃ L, nl d = L := ⟨_, rfl⟩
  obtain ⟨L3, hL3⟩ : ∃ L, nl n' = L := ⟨_, rfl⟩
  obtain ⟨L4, hL4⟩ : ∃ L, nl d' = L := ⟨_, rfl⟩
  have HN1 := Lib.hid (fun W => Num_run s z1 n L1 W hn hz1 hL1)
  have HN2 := Lib.hid (fun W => Num_run t z2 d L2 W hd hz2 hL2)
  have HN3 := Lib.hid (fun W => Num_run s' z3 n' L3 W hn' hz3 hL3)
  have HN4 := Lib.hid (fun W => Num_run t' z4 d' L4 W hd' hz4 hL4)
  have g1 := nl_fits hL1 hn.out
  have g2 := nl_fits hL2 hd.out
  have g3 := nl_fits hL3 hn'.out
  have g4 := nl_fits hL4 hd'.out
  rw [hz1, hz2, hz3, hz4] at H
  obtain ⟨p, hp⟩ : ∃ p, n * d' = p := ⟨_, rfl⟩
  obtain ⟨q, hq⟩ : ∃ q, n' * d = q := ⟨_, rfl⟩
  obtain ⟨Lp, hLp⟩ : ∃ L, nl p = L := ⟨_, rfl⟩
  obtain ⟨Lq, hLq⟩ : ∃ L, nl q = L := ⟨_, rfl⟩
  obtain ⟨zp, hzp⟩ : ∃ z, sgn (z1 != z4) p = z := ⟨_, rfl⟩
  obtain ⟨zq, hzq⟩ : ∃ z, sgn (z3 != z2) q = z := ⟨_, rfl⟩
  have g5 := nl_mul64 hp hLp hn.out hd'.out
  have g6 := nl_mul64 hq hLq hn'.out hd.out
  have HM1 := Lib.hid (fun W A c B e ha hb => Mul_out (L := L1) (L' := L4) (by omega) hzp hp hLp W A c B e ha hb)
  have HM2 := Lib.hid (fun W A c B e ha hb => Mul_out (L := L3) (L' := L2) (by omega) hzq hq hLq W A c B e ha hb)
  rw [hp, hq, hzp, hzq] at H
  replace hLp := Lib.hid hLp
  replace hLq := Lib.hid hLq
  clear hp hq hzp hzq hz1 hz2 hz3 hz4 hL1 hL2 hL3 hL4 hn hd hn' hd'
  rw [hS]
  go_enter Tryz.func26, Tryz.ntmps26
  have HRa := Lib.hid (I.out.rat 1 rfl)
  go_wp2_with (first | (with_reducible refine wpList_box_rat rfl (.tmp 0) rfl rfl ?_) | (with_reducible refine wpList_box_rat rfl (.tmp 1) rfl rfl ?_) | (with_reducible refine wpList_load_rat rfl (.tmp 2) rfl rfl HRa.out ?_))
  refine (HC1.out _).mono ?_
  rintro e w1 ⟨rfl, hw⟩
  replace I := Lib.hid (I.out.below hw)
  clear hw hW0 HC1 HRa
  rcases hk8 with rfl | rfl
  rotate_left
  · obtain ⟨rfl, rfl⟩ := H.out.b1 (by decide)
    go_wp2_with fail
    go_ret2
    exact ⟨rfl, I.out.bl⟩
  have HRb := Lib.hid (I.out.rat 0 rfl)
  go_wp2_with ((with_reducible refine wpList_load_rat_w ?hw1 (.tmp 3) rfl rfl HRb.out ?_); case hw1 => rfl)
  refine (HC2.out _).mono ?_
  rintro e w2 ⟨rfl, hw⟩
  replace I := Lib.hid (I.out.below hw)
  clear hw HC2 HRb
  rcases hj8 with rfl | rfl
  rotate_left
  · obtain ⟨rfl, rfl⟩ := H.out.b2 (by decide)
    go_wp2_with fail
    go_ret2
    exact ⟨rfl, I.out.bl⟩
  go_upto_region 3 with fail
  go_cut [6] (fun s6 wx => ∃ (Kp : Nat) (A : Option Addr) (c : Nat), s6 = .pointer (some ⟨Kp, 0, none⟩) ∧ Bs w S [.num Kp zp A Lp c, .dig zp A Lp c p, .rat (S + 1) s' n' t' d', .rat S s n t d] wx)
  case first =>
    refine rg_begin (fun V => Bs w S [.rat (S + 1) s' n' t' d', .rat S s n t d] V) (by kernel_rfl) ((I.out.sub (.cons_cons _ (.cons_cons _ .slnil))).drew) (fun hS => ?_)
    refine rg_take 0 (.pointer (some ⟨S, 0, none⟩)) rfl (by kernel_rfl) (by kernel_rfl) (by kernel_rfl) (fun _ _ _ h => h) rfl (fun w _ => ?_) hS ?_
    · go_simp
    simp only [List.getElem_toArray, List.getElem_cons_zero, List.getElem_cons_succ, Act.put, List.setIfInBounds_toArray, List.set_cons_zero, List.set_cons_succ]
    refine rg_take 1 (intV s n) rfl (by kernel_rfl) (by kernel_rfl) (by kernel_rfl) (fun _ _ _ h => h) rfl (fun w hSw => ld_int (.tmp 16) rfl rfl (hSw.rat 1 rfl).num) hS ?_
    simp only [List.getElem_toArray, List.getElem_cons_zero, List.getElem_cons_succ, Act.put, List.setIfInBounds_toArray, List.set_cons_zero, List.set_cons_succ]
    refine rg_take 3 (.pointer (some ⟨S + 1, 9, none⟩)) rfl (by kernel_rfl) (by kernel_rfl) (by kernel_rfl) (fun _ _ _ h => h) rfl (fun w _ => ?_) hS ?_
    · go_simp
    simp only [List.getElem_toArray, List.getElem_cons_zero, List.getElem_cons_succ, Act.put, List.setIfInBounds_toArray, List.set_cons_zero, List.set_cons_succ]
    refine rg_take 4 (intV t' d') rfl (by kernel_rfl) (by kernel_rfl) (by kernel_rfl) (fun _ _ _ h => h) rfl (fun w hSw => ld_int (.tmp 19) rfl rfl (hSw.rat 0 rfl).den) hS ?_
    simp only [List.getElem_toArray, List.getElem_cons_zero, List.getElem_cons_succ, Act.put, List.setIfInBounds_toArray, List.set_cons_zero, List.set_cons_succ]
    replace hS := I.out.drew
    clear I
    generalize w2.drew = V0 at *
    refine rg_two 2 7 (by kernel_rfl) ?_ ?_
    · refine rs_of rfl rfl (wp_callx rfl enters_num8 rfl (HN1.out _) (fun q2 V1 hV => ⟨(hS.sub (.cons_cons _ (.cons_cons _ .slnil))).below hV.2, ?_⟩))
      obtain ⟨A2, c2⟩ := q2
      obtain ⟨hg2, hV⟩ := hV
      replace hS := (hS.below hV).pushDig hg2
      clear hV hg2
      simp only [List.getElem_toArray, List.getElem_cons_zero, List.getElem_cons_succ, Act.put, List.setIfInBounds_toArray, List.set_cons_zero, List.set_cons_succ]
      refine rg_two 5 7 (by kernel_rfl) ?_ ?_
      · refine rs_of rfl rfl (wp_callx rfl enters_num8 rfl (HN4.out _) (fun q5 V2 hV => ⟨(hS.sub (.cons _ (.cons_cons _ (.cons_cons _ .slnil)))).below hV.2, ?_⟩))
        obtain ⟨A5, c5⟩ := q5
        obtain ⟨hg5, hV⟩ := hV
        replace hS := (hS.below hV).pushDig hg5
        clear hV hg5
        simp only [List.getElem_toArray, List.getElem_cons_zero, List.getElem_cons_succ, Act.put, List.setIfInBounds_toArray, List.set_cons_zero, List.set_cons_succ]
        refine rg_two 6 7 (by kernel_rfl) ?_ ?_
        · refine rs_of rfl rfl (wp_callx rfl enters_mul7 rfl (HM1.out _ _ _ _ _ (hS.dig 1 rfl) (hS.dig 0 rfl)) (fun q6 V3 hV => ⟨(hS.sub (.cons _ (.cons _ (.cons_cons _ (.cons_cons _ .slnil))))).below hV.2, ?_⟩))
          obtain ⟨A6, c6⟩ := q6
          obtain ⟨hg6, hV⟩ := hV
          replace hS := (hS.below hV).pushDig hg6
          clear hV hg6
          simp only [List.getElem_toArray, List.getElem_cons_zero, List.getElem_cons_succ, Act.put, List.setIfInBounds_toArray, List.set_cons_zero, List.set_cons_succ]
          refine rg_one 7 (by kernel_rfl) ?_
          refine rs_of rfl rfl (wp_value (alloc_num rfl) ⟨(hS.sub (.cons _ (.cons _ (.cons _ (.cons_cons _ (.cons_cons _ .slnil)))))).alloc _, ?_⟩)
          replace hS := hS.pushNum (k := _) rfl false none 0 0
          simp only [List.getElem_toArray, List.getElem_cons_zero, List.getElem_cons_succ, Act.put, List.setIfInBounds_toArray, List.set_cons_zero, List.set_cons_succ]
          generalize V3.alloc boxNZ = V4 at *
          generalize V3.heap.size = K7 at *
          refine rg_one 8 (by kernel_rfl) ?_
          have hSn := hS.putNum 0 rfl (zp) (A6) (Lp) (c6) rfl
          refine rs_of rfl rfl (stores_num (.tmp 6) (.tmp 22) rfl (t := zp) (B := A6) (M := Lp) (cb := c6) rfl rfl (hS.num 0 rfl) ⟨hSn.sub (.cons _ (.cons _ (.cons _ (.cons _ (.cons_cons _ (.cons_cons _ .slnil)))))), ?_⟩)
          replace hS := hSn
          clear hSn
          simp only [List.getElem_toArray, List.getElem_cons_zero, List.getElem_cons_succ, Act.put, List.setIfInBounds_toArray, List.set_cons_zero, List.set_cons_succ]
          generalize st2 V4 K7 (zp) (A6) (Lp) (c6) = V5 at *
          refine wpAnyH_done (by kernel_rfl) ?_ _
          go_wp2_with fail
          go_meet
          replace hS := hS.sub (l' := [.num K7 zp A6 Lp c6, .dig zp A6 Lp c6 p, .rat (S + 1) s' n' t' d', .rat S s n t d]) (.cons_cons _ (.cons_cons _ (.cons _ (.cons _ (.cons_cons _ (.cons_cons _ .slnil))))))
          exact ⟨_, _, _, rfl, hS⟩
        · refine rs_of rfl rfl (wp_value (alloc_num rfl) ⟨(hS.sub (.cons _ (.cons _ (.cons_cons _ (.cons_cons _ .slnil))))).alloc _, ?_⟩)
          replace hS := hS.pushNum (k := _) rfl false none 0 0
          simp only [List.getElem_toArray, List.getElem_cons_zero, List.getElem_cons_succ, Act.put, List.setIfInBounds_toArray, List.set_cons_zero, List.set_cons_succ]
          generalize V2.alloc boxNZ = V6 at *
          generalize V2.heap.size = K7 at *
          refine rg_one 6 (by kernel_rfl) ?_
          refine rs_of rfl rfl (wp_callx rfl enters_mul7 rfl (HM1.out _ _ _ _ _ (hS.dig 2 rfl) (hS.dig 1 rfl)) (fun q6 V7 hV => ⟨(hS.sub (.cons _ (.cons _ (.cons _ (.cons_cons _ (.cons_cons _ .slnil)))))).below hV.2, ?_⟩))
          obtain ⟨A6, c6⟩ := q6
          obtain ⟨hg6, hV⟩ := hV
          replace hS := (hS.below hV).pushDig hg6
          clear hV hg6
          simp only [List.getElem_toArray, List.getElem_cons_zero, List.getElem_cons_succ, Act.put, List.setIfInBounds_toArray, List.set_cons_zero, List.set_cons_succ]
          refine rg_one 8 (by kernel_rfl) ?_
          have hSn := hS.putNum 1 rfl (zp) (A6) (Lp) (c6) rfl
          refine rs_of rfl rfl (stores_num (.tmp 6) (.tmp 22) rfl (t := zp) (B := A6) (M := Lp) (cb := c6) rfl rfl (hS.num 1 rfl) ⟨hSn.sub (.cons _ (.cons _ (.cons _ (.cons _ (.cons_cons _ (.cons_cons _ .slnil)))))), ?_⟩)
          replace hS := hSn
          clear hSn
          simp only [List.getElem_toArray, List.getElem_cons_zero, List.getElem_cons_succ, Act.put, List.setIfInBounds_toArray, List.set_cons_zero, List.set_cons_succ]
          generalize st2 V7 K7 (zp) (A6) (Lp) (c6) = V8 at *
          refine wpAnyH_done (by kernel_rfl) ?_ _
          go_wp2_with fail
          go_meet
          replace hS := hS.sub (l' := [.dig zp A6 Lp c6 p, .num K7 zp A6 Lp c6, .rat (S + 1) s' n' t' d', .rat S s n t d]) (.cons_cons _ (.cons_cons _ (.cons _ (.cons _ (.cons_cons _ (.cons_cons _ .slnil))))))
          replace hS := hS.front 3 rfl
          replace hS := hS.front 3 rfl
          replace hS := hS.front 2 rfl
          replace hS := hS.front 3 rfl
          exact ⟨_, _, _, rfl, hS⟩
      · refine rs_of rfl rfl (wp_value (alloc_num rfl) ⟨(hS.sub (.cons _ (.cons_cons _ (.cons_cons _ .slnil)))).alloc _, ?_⟩)
        replace hS := hS.pushNum (k := _) rfl false none 0 0
        simp only [List.getElem_toArray, List.getElem_cons_zero, List.getElem_cons_succ, Act.put, List.setIfInBounds_toArray, List.set_cons_zero, List.set_cons_succ]
        generalize V1.alloc boxNZ = V9 at *
        generalize V1.heap.size = K7 at *
        refine rg_one 5 (by kernel_rfl) ?_
        refine rs_of rfl rfl (wp_callx rfl enters_num8 rfl (HN4.out _) (fun q5 V10 hV => ⟨(hS.sub (.cons _ (.cons _ (.cons_cons _ (.cons_cons _ .slnil))))).below hV.2, ?_⟩))
        obtain ⟨A5, c5⟩ := q5
        obtain ⟨hg5, hV⟩ := hV
        replace hS := (hS.below hV).pushDig hg5
        clear hV hg5
        simp only [List.getElem_toArray, List.getElem_cons_zero, List.getElem_cons_succ, Act.put, List.setIfInBounds_toArray, List.set_cons_zero, List.set_cons_succ]
        refine rg_one 6 (by kernel_rfl) ?_
        refine rs_of rfl rfl (wp_callx rfl enters_mul7 rfl (HM1.out _ _ _ _ _ (hS.dig 2 rfl) (hS.dig 0 rfl)) (fun q6 V11 hV => ⟨(hS.sub (.cons _ (.cons _ (.cons _ (.cons_cons _ (.cons_cons _ .slnil)))))).below hV.2, ?_⟩))
        obtain ⟨A6, c6⟩ := q6
        obtain ⟨hg6, hV⟩ := hV
        replace hS := (hS.below hV).pushDig hg6
        clear hV hg6
        simp only [List.getElem_toArray, List.getElem_cons_zero, List.getElem_cons_succ, Act.put, List.setIfInBounds_toArray, List.set_cons_zero, List.set_cons_succ]
        refine rg_one 8 (by kernel_rfl) ?_
        have hSn := hS.putNum 2 rfl (zp) (A6) (Lp) (c6) rfl
        refine rs_of rfl rfl (stores_num (.tmp 6) (.tmp 22) rfl (t := zp) (B := A6) (M := Lp) (cb := c6) rfl rfl (hS.num 2 rfl) ⟨hSn.sub (.cons _ (.cons _ (.cons _ (.cons _ (.cons_cons _ (.cons_cons _ .slnil)))))), ?_⟩)
        replace hS := hSn
        clear hSn
        simp only [List.getElem_toArray, List.getElem_cons_zero, List.getElem_cons_succ, Act.put, List.setIfInBounds_toArray, List.set_cons_zero, List.set_cons_succ]
        generalize st2 V11 K7 (zp) (A6) (Lp) (c6) = V12 at *
        refine wpAnyH_done (by kernel_rfl) ?_ _
        go_wp2_with fail
        go_meet
        replace hS := hS.sub (l' := [.dig zp A6 Lp c6 p, .num K7 zp A6 Lp c6, .rat (S + 1) s' n' t' d', .rat S s n t d]) (.cons_cons _ (.cons _ (.cons_cons _ (.cons _ (.cons_cons _ (.cons_cons _ .slnil))))))
        replace hS := hS.front 3 rfl
        replace hS := hS.front 3 rfl
        replace hS := hS.front 2 rfl
        replace hS := hS.front 3 rfl
        exact ⟨_, _, _, rfl, hS⟩
    · refine rs_of rfl rfl (wp_value (alloc_num rfl) ⟨(hS.sub (.cons_cons _ (.cons_cons _ .slnil))).alloc _, ?_⟩)
      replace hS := hS.pushNum (k := _) rfl false none 0 0
      simp only [List.getElem_toArray, List.getElem_cons_zero, List.getElem_cons_succ, Act.put, List.setIfInBounds_toArray, List.set_cons_zero, List.set_cons_succ]
      generalize V0.alloc boxNZ = V13 at *
      generalize V0.heap.size = K7 at *
      refine rg_one 2 (by kernel_rfl) ?_
      refine rs_of rfl rfl (wp_callx rfl enters_num8 rfl (HN1.out _) (fun q2 V14 hV => ⟨(hS.sub (.cons _ (.cons_cons _ (.cons_cons _ .slnil)))).below hV.2, ?_⟩))
      obtain ⟨A2, c2⟩ := q2
      obtain ⟨hg2, hV⟩ := hV
      replace hS := (hS.below hV).pushDig hg2
      clear hV hg2
      simp only [List.getElem_toArray, List.getElem_cons_zero, List.getElem_cons_succ, Act.put, List.setIfInBounds_toArray, List.set_cons_zero, List.set_cons_succ]
      refine rg_one 5 (by kernel_rfl) ?_
      refine rs_of rfl rfl (wp_callx rfl enters_num8 rfl (HN4.out _) (fun q5 V15 hV => ⟨(hS.sub (.cons _ (.cons _ (.cons_cons _ (.cons_cons _ .slnil))))).below hV.2, ?_⟩))
      obtain ⟨A5, c5⟩ := q5
      obtain ⟨hg5, hV⟩ := hV
      replace hS := (hS.below hV).pushDig hg5
      clear hV hg5
      simp only [List.getElem_toArray, List.getElem_cons_zero, List.getElem_cons_succ, Act.put, List.setIfInBounds_toArray, List.set_cons_zero, List.set_cons_succ]
      refine rg_one 6 (by kernel_rfl) ?_
      refine rs_of rfl rfl (wp_callx rfl enters_mul7 rfl (HM1.out _ _ _ _ _ (hS.dig 1 rfl) (hS.dig 0 rfl)) (fun q6 V16 hV => ⟨(hS.sub (.cons _ (.cons _ (.cons _ (.cons_cons _ (.cons_cons _ .slnil)))))).below hV.2, ?_⟩))
      obtain ⟨A6, c6⟩ := q6
      obtain ⟨hg6, hV⟩ := hV
      replace hS := (hS.below hV).pushDig hg6
      clear hV hg6
      simp only [List.getElem_toArray, List.getElem_cons_zero, List.getElem_cons_succ, Act.put, List.setIfInBounds_toArray, List.set_cons_zero, List.set_cons_succ]
      refine rg_one 8 (by kernel_rfl) ?_
      have hSn := hS.putNum 3 rfl (zp) (A6) (Lp) (c6) rfl
      refine rs_of rfl rfl (stores_num (.tmp 6) (.tmp 22) rfl (t := zp) (B := A6) (M := Lp) (cb := c6) rfl rfl (hS.num 3 rfl) ⟨hSn.sub (.cons _ (.cons _ (.cons _ (.cons _ (.cons_cons _ (.cons_cons _ .slnil)))))), ?_⟩)
      replace hS := hSn
      clear hSn
      simp only [List.getElem_toArray, List.getElem_cons_zero, List.getElem_cons_succ, Act.put, List.setIfInBounds_toArray, List.set_cons_zero, List.set_cons_succ]
      generalize st2 V16 K7 (zp) (A6) (Lp) (c6) = V17 at *
      refine wpAnyH_done (by kernel_rfl) ?_ _
      go_wp2_with fail
      go_meet
      replace hS := hS.sub (l' := [.dig zp A6 Lp c6 p, .num K7 zp A6 Lp c6, .rat (S + 1) s' n' t' d', .rat S s n t d]) (.cons_cons _ (.cons _ (.cons _ (.cons_cons _ (.cons_cons _ (.cons_cons _ .slnil))))))
      replace hS := hS.front 3 rfl
      replace hS := hS.front 3 rfl
      replace hS := hS.front 2 rfl
      replace hS := hS.front 3 rfl
      exact ⟨_, _, _, rfl, hS⟩
  case rest =>
    obtain ⟨Kp, Ap, cp, rfl, I2⟩ := hcut
    clear I
    have I := Lib.hid I2
    clear I2
    go_upto_region 4 with fail
    go_cut [7] (fun s7 wx => ∃ (Kq : Nat) (A : Option Addr) (c : Nat), s7 = .pointer (some ⟨Kq, 0, none⟩) ∧ Bs w S [.num Kq zq A Lq c, .dig zq A Lq c q, .num Kp zp Ap Lp cp, .dig zp Ap Lp cp p, .rat (S + 1) s' n' t' d', .rat S s n t d] wx)
    case first =>
      refine rg_begin (fun V => Bs w S [.num Kp zp Ap Lp cp, .dig zp Ap Lp cp p, .rat (S + 1) s' n' t' d', .rat S s n t d] V) (by kernel_rfl) ((I.out.sub (.cons_cons _ (.cons_cons _ (.cons_cons _ (.cons_cons _ .slnil))))).drew) (fun hS => ?_)
      refine rg_take 0 (.pointer (some ⟨S + 1, 0, none⟩)) rfl (by kernel_rfl) (by kernel_rfl) (by kernel_rfl) (fun _ _ _ h => h) rfl (fun w _ => ?_) hS ?_
      · go_simp
      simp only [List.getElem_toArray, List.getElem_cons_zero, List.getElem_cons_succ, Act.put, List.setIfInBounds_toArray, List.set_cons_zero, List.set_cons_succ]
      refine rg_take 1 (intV s' n') rfl (by kernel_rfl) (by kernel_rfl) (by kernel_rfl) (fun _ _ _ h => h) rfl (fun w hSw => ld_int (.tmp 23) rfl rfl (hSw.rat 2 rfl).num) hS ?_
      simp only [List.getElem_toArray, List.getElem_cons_zero, List.getElem_cons_succ, Act.put, List.setIfInBounds_toArray, List.set_cons_zero, List.set_cons_succ]
      refine rg_take 3 (.pointer (some ⟨S, 9, none⟩)) rfl (by kernel_rfl) (by kernel_rfl) (by kernel_rfl) (fun _ _ _ h => h) rfl (fun w _ => ?_) hS ?_
      · go_simp
      simp only [List.getElem_toArray, List.getElem_cons_zero, List.getElem_cons_succ, Act.put, List.setIfInBounds_toArray, List.set_cons_zero, List.set_cons_succ]
      refine rg_take 4 (intV t d) rfl (by kernel_rfl) (by kernel_rfl) (by kernel_rfl) (fun _ _ _ h => h) rfl (fun w hSw => ld_int (.tmp 26) rfl rfl (hSw.rat 3 rfl).den) hS ?_
      simp only [List.getElem_toArray, List.getElem_cons_zero, List.getElem_cons_succ, Act.put, List.setIfInBounds_toArray, List.set_cons_zero, List.set_cons_succ]
      replace hS := I.out.drew
      clear I
      generalize wc.drew = V0 at *
      refine rg_two 2 7 (by kernel_rfl) ?_ ?_
      · refine rs_of rfl rfl (wp_callx rfl enters_num8 rfl (HN3.out _) (fun q2 V1 hV => ⟨(hS.sub (.cons_cons _ (.cons_cons _ (.cons_cons _ (.cons_cons _ .slnil))))).below hV.2, ?_⟩))
        obtain ⟨A2, c2⟩ := q2
        obtain ⟨hg2, hV⟩ := hV
        replace hS := (hS.below hV).pushDig hg2
        clear hV hg2
        simp only [List.getElem_toArray, List.getElem_cons_zero, List.getElem_cons_succ, Act.put, List.setIfInBounds_toArray, List.set_cons_zero, List.set_cons_succ]
        refine rg_two 5 7 (by kernel_rfl) ?_ ?_
        · refine rs_of rfl rfl (wp_callx rfl enters_num8 rfl (HN2.out _) (fun q5 V2 hV => ⟨(hS.sub (.cons _ (.cons_cons _ (.cons_cons _ (.cons_cons _ (.cons_cons _ .slnil)))))).below hV.2, ?_⟩))
          obtain ⟨A5, c5⟩ := q5
          obtain ⟨hg5, hV⟩ := hV
          replace hS := (hS.below hV).pushDig hg5
          clear hV hg5
          simp only [List.getElem_toArray, List.getElem_cons_zero, List.getElem_cons_succ, Act.put, List.setIfInBounds_toArray, List.set_cons_zero, List.set_cons_succ]
          refine rg_two 6 7 (by kernel_rfl) ?_ ?_
          · refine rs_of rfl rfl (wp_callx rfl enters_mul7 rfl (HM2.out _ _ _ _ _ (hS.dig 1 rfl) (hS.dig 0 rfl)) (fun q6 V3 hV => ⟨(hS.sub (.cons _ (.cons _ (.cons_cons _ (.cons_cons _ (.cons_cons _ (.cons_cons _ .slnil))))))).below hV.2, ?_⟩))
            obtain ⟨A6, c6⟩ := q6
            obtain ⟨hg6, hV⟩ := hV
            replace hS := (hS.below hV).pushDig hg6
            clear hV hg6
            simp only [List.getElem_toArray, List.getElem_cons_zero, List.getElem_cons_succ, Act.put, List.setIfInBounds_toArray, List.set_cons_zero, List.set_cons_succ]
            refine rg_one 7 (by kernel_rfl) ?_
            refine rs_of rfl rfl (wp_value (alloc_num rfl) ⟨(hS.sub (.cons _ (.cons _ (.cons _ (.cons_cons _ (.cons_cons _ (.cons_cons _ (.cons_cons _ .slnil)))))))).alloc _, ?_⟩)
            replace hS := hS.pushNum (k := _) rfl false none 0 0
            simp only [List.getElem_toArray, List.getElem_cons_zero, List.getElem_cons_succ, Act.put, List.setIfInBounds_toArray, List.set_cons_zero, List.set_cons_succ]
            generalize V3.alloc boxNZ = V4 at *
            generalize V3.heap.size = K7 at *
            refine rg_one 8 (by kernel_rfl) ?_
            have hSn := hS.putNum 0 rfl (zq) (A6) (Lq) (c6) rfl
            refine rs_of rfl rfl (stores_num (.tmp 7) (.tmp 29) rfl (t := zq) (B := A6) (M := Lq) (cb := c6) rfl rfl (hS.num 0 rfl) ⟨hSn.sub (.cons _ (.cons _ (.cons _ (.cons _ (.cons_cons _ (.cons_cons _ (.cons_cons _ (.cons_cons _ .slnil)))))))), ?_⟩)
            replace hS := hSn
            clear hSn
            simp only [List.getElem_toArray, List.getElem_cons_zero, List.getElem_cons_succ, Act.put, List.setIfInBounds_toArray, List.set_cons_zero, List.set_cons_succ]
            generalize st2 V4 K7 (zq) (A6) (Lq) (c6) = V5 at *
            refine wpAnyH_done (by kernel_rfl) ?_ _
            go_wp2_with fail
            go_meet
            replace hS := hS.sub (l' := [.num K7 zq A6 Lq c6, .dig zq A6 Lq c6 q, .num Kp zp Ap Lp cp, .dig zp Ap Lp cp p, .rat (S + 1) s' n' t' d', .rat S s n t d]) (.cons_cons _ (.cons_cons _ (.cons _ (.cons _ (.cons_cons _ (.cons_cons _ (.cons_cons _ (.cons_cons _ .slnil))))))))
            exact ⟨_, _, _, rfl, hS⟩
          · refine rs_of rfl rfl (wp_value (alloc_num rfl) ⟨(hS.sub (.cons _ (.cons _ (.cons_cons _ (.cons_cons _ (.cons_cons _ (.cons_cons _ .slnil))))))).alloc _, ?_⟩)
            replace hS := hS.pushNum (k := _) rfl false none 0 0
            simp only [List.getElem_toArray, List.getElem_cons_zero, List.getElem_cons_succ, Act.put, List.setIfInBounds_toArray, List.set_cons_zero, List.set_cons_succ]
            generalize V2.alloc boxNZ = V6 at *
            generalize V2.heap.size = K7 at *
            refine rg_one 6 (by kernel_rfl) ?_
            refine rs_of rfl rfl (wp_callx rfl enters_mul7 rfl (HM2.out _ _ _ _ _ (hS.dig 2 rfl) (hS.dig 1 rfl)) (fun q6 V7 hV => ⟨(hS.sub (.cons _ (.cons _ (.cons _ (.cons_cons _ (.cons_cons _ (.cons_cons _ (.cons_cons _ .slnil)))))))).below hV.2, ?_⟩))
            obtain ⟨A6, c6⟩ := q6
            obtain ⟨hg6, hV⟩ := hV
            replace hS := (hS.below hV).pushDig hg6
            clear hV hg6
            simp only [List.getElem_toArray, List.getElem_cons_zero, List.getElem_cons_succ, Act.put, List.setIfInBounds_toArray, List.set_cons_zero, List.set_cons_succ]
            refine rg_one 8 (by kernel_rfl) ?_
            have hSn := hS.putNum 1 rfl (zq) (A6) (Lq) (c6) rfl
            refine rs_of rfl rfl (stores_num (.tmp 7) (.tmp 29) rfl (t := zq) (B := A6) (M := Lq) (cb := c6) rfl rfl (hS.num 1 rfl) ⟨hSn.sub (.cons _ (.cons _ (.cons _ (.cons _ (.cons_cons _ (.cons_cons _ (.cons_cons _ (.cons_cons _ .slnil)))))))), ?_⟩)
            replace hS := hSn
            clear hSn
            simp only [List.getElem_toArray, List.getElem_cons_zero, List.getElem_cons_succ, Act.put, List.setIfInBounds_toArray, List.set_cons_zero, List.set_cons_succ]
            generalize st2 V7 K7 (zq) (A6) (Lq) (c6) = V8 at *
            refine wpAnyH_done (by kernel_rfl) ?_ _
            go_wp2_with fail
            go_meet
            replace hS := hS.sub (l' := [.dig zq A6 Lq c6 q, .num K7 zq A6 Lq c6, .num Kp zp Ap Lp cp, .dig zp Ap Lp cp p, .rat (S + 1) s' n' t' d', .rat S s n t d]) (.cons_cons _ (.cons_cons _ (.cons _ (.cons _ (.cons_cons _ (.cons_cons _ (.cons_cons _ (.cons_cons _ .slnil))))))))
            replace hS := hS.front 5 rfl
            replace hS := hS.front 5 rfl
            replace hS := hS.front 5 rfl
            replace hS := hS.front 5 rfl
            replace hS := hS.front 4 rfl
            replace hS := hS.front 5 rfl
            exact ⟨_, _, _, rfl, hS⟩
        · refine rs_of rfl rfl (wp_value (alloc_num rfl) ⟨(hS.sub (.cons _ (.cons_cons _ (.cons_cons _ (.cons_cons _ (.cons_cons _ .slnil)))))).alloc _, ?_⟩)
          replace hS := hS.pushNum (k := _) rfl false none 0 0
          simp only [List.getElem_toArray, List.getElem_cons_zero, List.getElem_cons_succ, Act.put, List.setIfInBounds_toArray, List.set_cons_zero, List.set_cons_succ]
          generalize V1.alloc boxNZ = V9 at *
          generalize V1.heap.size = K7 at *
          refine rg_one 5 (by kernel_rfl) ?_
          refine rs_of rfl rfl (wp_callx rfl enters_num8 rfl (HN2.out _) (fun q5 V10 hV => ⟨(hS.sub (.cons _ (.cons _ (.cons_cons _ (.cons_cons _ (.cons_cons _ (.cons_cons _ .slnil))))))).below hV.2, ?_⟩))
          obtain ⟨A5, c5⟩ := q5
          obtain ⟨hg5, hV⟩ := hV
          replace hS := (hS.below hV).pushDig hg5
          clear hV hg5
          simp only [List.getElem_toArray, List.getElem_cons_zero, List.getElem_cons_succ, Act.put, List.setIfInBounds_toArray, List.set_cons_zero, List.set_cons_succ]
          refine rg_one 6 (by kernel_rfl) ?_
          refine rs_of rfl rfl (wp_callx rfl enters_mul7 rfl (HM2.out _ _ _ _ _ (hS.dig 2 rfl) (hS.dig 0 rfl)) (fun q6 V11 hV => ⟨(hS.sub (.cons _ (.cons _ (.cons _ (.cons_cons _ (.cons_cons _ (.cons_cons _ (.cons_cons _ .slnil)))))))).below hV.2, ?_⟩))
          obtain ⟨A6, c6⟩ := q6
          obtain ⟨hg6, hV⟩ := hV
          replace hS := (hS.below hV).pushDig hg6
          clear hV hg6
          simp only [List.getElem_toArray, List.getElem_cons_zero, List.getElem_cons_succ, Act.put, List.setIfInBounds_toArray, List.set_cons_zero, List.set_cons_succ]
          refine rg_one 8 (by kernel_rfl) ?_
          have hSn := hS.putNum 2 rfl (zq) (A6) (Lq) (c6) rfl
          refine rs_of rfl rfl (stores_num (.tmp 7) (.tmp 29) rfl (t := zq) (B := A6) (M := Lq) (cb := c6) rfl rfl (hS.num 2 rfl) ⟨hSn.sub (.cons _ (.cons _ (.cons _ (.cons _ (.cons_cons _ (.cons_cons _ (.cons_cons _ (.cons_cons _ .slnil)))))))), ?_⟩)
          replace hS := hSn
          clear hSn
          simp only [List.getElem_toArray, List.getElem_cons_zero, List.getElem_cons_succ, Act.put, List.setIfInBounds_toArray, List.set_cons_zero, List.set_cons_succ]
          generalize st2 V11 K7 (zq) (A6) (Lq) (c6) = V12 at *
          refine wpAnyH_done (by kernel_rfl) ?_ _
          go_wp2_with fail
          go_meet
          replace hS := hS.sub (l' := [.dig zq A6 Lq c6 q, .num K7 zq A6 Lq c6, .num Kp zp Ap Lp cp, .dig zp Ap Lp cp p, .rat (S + 1) s' n' t' d', .rat S s n t d]) (.cons_cons _ (.cons _ (.cons_cons _ (.cons _ (.cons_cons _ (.cons_cons _ (.cons_cons _ (.cons_cons _ .slnil))))))))
          replace hS := hS.front 5 rfl
          replace hS := hS.front 5 rfl
          replace hS := hS.front 5 rfl
          replace hS := hS.front 5 rfl
          replace hS := hS.front 4 rfl
          replace hS := hS.front 5 rfl
          exact ⟨_, _, _, rfl, hS⟩
      · refine rs_of rfl rfl (wp_value (alloc_num rfl) ⟨(hS.sub (.cons_cons _ (.cons_cons _ (.cons_cons _ (.cons_cons _ .slnil))))).alloc _, ?_⟩)
        replace hS := hS.pushNum (k := _) rfl false none 0 0
        simp only [List.getElem_toArray, List.getElem_cons_zero, List.getElem_cons_succ, Act.put, List.setIfInBounds_toArray, List.set_cons_zero, List.set_cons_succ]
        generalize V0.alloc boxNZ = V13 at *
        generalize V0.heap.size = K7 at *
        refine rg_one 2 (by kernel_rfl) ?_
        refine rs_of rfl rfl (wp_callx rfl enters_num8 rfl (HN3.out _) (fun q2 V14 hV => ⟨(hS.sub (.cons _ (.cons_cons _ (.cons_cons _ (.cons_cons _ (.cons_cons _ .slnil)))))).below hV.2, ?_⟩))
        obtain ⟨A2, c2⟩ := q2
        obtain ⟨hg2, hV⟩ := hV
        replace hS := (hS.below hV).pushDig hg2
        clear hV hg2
        simp only [List.getElem_toArray, List.getElem_cons_zero, List.getElem_cons_succ, Act.put, List.setIfInBounds_toArray, List.set_cons_zero, List.set_cons_succ]
        refine rg_one 5 (by kernel_rfl) ?_
        refine rs_of rfl rfl (wp_callx rfl enters_num8 rfl (HN2.out _) (fun q5 V15 hV => ⟨(hS.sub (.cons _ (.cons _ (.cons_cons _ (.cons_cons _ (.cons_cons _ (.cons_cons _ .slnil))))))).below hV.2, ?_⟩))
        obtain ⟨A5, c5⟩ := q5
        obtain ⟨hg5, hV⟩ := hV
        replace hS := (hS.below hV).pushDig hg5
        clear hV hg5
        simp only [List.getElem_toArray, List.getElem_cons_zero, List.getElem_cons_succ, Act.put, List.setIfInBounds_toArray, List.set_cons_zero, List.set_cons_succ]
        refine rg_one 6 (by kernel_rfl) ?_
        refine rs_of rfl rfl (wp_callx rfl enters_mul7 rfl (HM2.out _ _ _ _ _ (hS.dig 1 rfl) (hS.dig 0 rfl)) (fun q6 V16 hV => ⟨(hS.sub (.cons _ (.cons _ (.cons _ (.cons_cons _ (.cons_cons _ (.cons_cons _ (.cons_cons _ .slnil)))))))).below hV.2, ?_⟩))
        obtain ⟨A6, c6⟩ := q6
        obtain ⟨hg6, hV⟩ := hV
        replace hS := (hS.below hV).pushDig hg6
        clear hV hg6
        simp only [List.getElem_toArray, List.getElem_cons_zero, List.getElem_cons_succ, Act.put, List.setIfInBounds_toArray, List.set_cons_zero, List.set_cons_succ]
        refine rg_one 8 (by kernel_rfl) ?_
        have hSn := hS.putNum 3 rfl (zq) (A6) (Lq) (c6) rfl
        refine rs_of rfl rfl (stores_num (.tmp 7) (.tmp 29) rfl (t := zq) (B := A6) (M := Lq) (cb := c6) rfl rfl (hS.num 3 rfl) ⟨hSn.sub (.cons _ (.cons _ (.cons _ (.cons _ (.cons_cons _ (.cons_cons _ (.cons_cons _ (.cons_cons _ .slnil)))))))), ?_⟩)
        replace hS := hSn
        clear hSn
        simp only [List.getElem_toArray, List.getElem_cons_zero, List.getElem_cons_succ, Act.put, List.setIfInBounds_toArray, List.set_cons_zero, List.set_cons_succ]
        generalize st2 V16 K7 (zq) (A6) (Lq) (c6) = V17 at *
        refine wpAnyH_done (by kernel_rfl) ?_ _
        go_wp2_with fail
        go_meet
        replace hS := hS.sub (l' := [.dig zq A6 Lq c6 q, .num K7 zq A6 Lq c6, .num Kp zp Ap Lp cp, .dig zp Ap Lp cp p, .rat (S + 1) s' n' t' d', .rat S s n t d]) (.cons_cons _ (.cons _ (.cons _ (.cons_cons _ (.cons_cons _ (.cons_cons _ (.cons_cons _ (.cons_cons _ .slnil))))))))
        replace hS := hS.front 5 rfl
        replace hS := hS.front 5 rfl
        replace hS := hS.front 5 rfl
        replace hS := hS.front 5 rfl
        replace hS := hS.front 4 rfl
        replace hS := hS.front 5 rfl
        exact ⟨_, _, _, rfl, hS⟩
    case rest =>
      obtain ⟨Kq, Aq, cq, rfl, I2⟩ := hcut
      clear I
      have I := Lib.hid I2
      clear I2
      obtain ⟨b0, b0', b1, b1'⟩ := I.out.num 2 rfl
      by_cases fp : Fits p
      rotate_left
      · obtain ⟨rfl, rfl⟩ := H.out.b4 rfl rfl (fun hf => fp hf.1)
        go_wp2_with fail
        refine (over_yes (s := zp) (A := Ap) (c := cp) hLp.out fp wc).mono ?_
        rintro e w5 ⟨rfl, hw⟩
        replace I := Lib.hid (I.out.below hw)
        clear hw b0 b0' b1 b1'
        go_wp2_with fail
        go_ret2
        exact ⟨rfl, I.out.bl⟩
      go_wp2_with fail
      refine (over_no (s := zp) (A := Ap) (c := cp) hLp.out fp wc).mono ?_
      rintro e w5 ⟨rfl, hw⟩
      replace I := Lib.hid (I.out.below hw)
      clear hw b0 b0' b1 b1'
      obtain ⟨b0, b0', b1, b1'⟩ := I.out.num 0 rfl
      by_cases fq : Fits q
      rotate_left
      · obtain ⟨rfl, rfl⟩ := H.out.b4 rfl rfl (fun hf => fq hf.2)
        go_wp2_with fail
        refine (over_yes (s := zq) (A := Aq) (c := cq) hLq.out fq w5).mono ?_
        rintro e w6 ⟨rfl, hw⟩
        replace I := Lib.hid (I.out.below hw)
        clear hw b0 b0' b1 b1'
        go_wp2_with fail
        go_ret2
        exact ⟨rfl, I.out.bl⟩
      go_wp2_with fail
      refine (over_no (s := zq) (A := Aq) (c := cq) hLq.out fq w5).mono ?_
      rintro e w6 ⟨rfl, hw⟩
      replace I := Lib.hid (I.out.below hw)
      clear hw b0 b0' b1 b1'
      obtain ⟨b0, b0', b1, b1'⟩ := I.out.num 0 rfl
      obtain ⟨a0, a0', a1, a1'⟩ := I.out.num 2 rfl
      obtain ⟨hc, rfl⟩ := H.out.ok rfl rfl fp fq
      have HCM := Lib.hid (Cmp_run7 zp Ap Lp cp p zq Aq Lq cq q c w6 (I.out.dig 3 rfl) (I.out.dig 1 rfl) hc)
      clear hc
      go_wp2_with fail
      refine HCM.out.mono ?_
      rintro e w7 ⟨rfl, hw⟩
      replace I := Lib.hid (I.out.below hw)
      clear hw HCM b0 b0' b1 b1' a0 a0' a1 a1'
      go_wp2_with fail
      go_ret2
      exact ⟨rfl, I.out.bl⟩
end Go.Proofs.YtbcnpajdmlbieaaGreatDoor
