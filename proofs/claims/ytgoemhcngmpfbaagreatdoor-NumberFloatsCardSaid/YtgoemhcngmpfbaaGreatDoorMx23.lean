/-
  The document's Check of a ratio.
-/
import Derived.Test.YtgoemhcngmpfbaaGreatDoorMx22
import Derived.Test.YtgoemhcngmpfbaaGreatDoorMx17
import Derived.Test.YtgoemhcngmpfbaaGreatDoorMx12
namespace Go.Proofs.YtgoemhcngmpfbaaGreatDoor
open Go.RowKit Go.Sort
set_option linter.unusedSimpArgs false
theorem chk_c1 {s : Bool} {n : Nat} (t : Bool) (d : Nat) (h : (sgn s n == s) = false) : chk s n t d = 8 := by simp [chk, vld, h]
theorem chk_t (s : Bool) (n d : Nat) : chk s n true d = 8 := by simp [chk, vld]
theorem chk_d0 (s : Bool) (n : Nat) (t : Bool) : chk s n t 0 = 8 := by simp [chk, vld]
theorem chk_g {s : Bool} {n : Nat} (t : Bool) {d : Nat} (h : Nat.gcd n d ≠ 1) : chk s n t d = 8 := by simp [chk, vld, h]
theorem chk_ok {s : Bool} {n d : Nat} (h1 : (sgn s n == s) = true) (hd : d ≠ 0) (hg : Nat.gcd n d = 1) : chk s n false d = 0 := by
 have : 0 < d := Nat.pos_of_ne_zero hd
 simp [chk, vld, h1, hg, this]
theorem cmp_one (g : Nat) : cmpS false g false 1 = 0 ↔ g = 1 := by
 unfold cmpS cmpN
 simp only [sgn, Bool.false_and, if_false, Bool.false_eq_true]
 constructor
 ·intro h
  split at h
  ·cases h
  ·split at h
   ·cases h
   ·omega
 ·rintro rfl
  decide
theorem canon_t {t : Bool} {d : Nat} (h : (sgn t d == t) = false) : t = true := by
 cases t
 ·simp [sgn] at h
 ·rfl
set_option maxRecDepth 100000 in
set_option maxHeartbeats 8000000 in
theorem Check_run8 (s : Bool) (n : Nat) (t : Bool) (d k : Nat) (w : World) (hn : Hid (Fits n)) (hd : Hid (Fits d)) (hk : Hid (chk s n t d = k)) :
  Calls Tryz.prog 13 #[ratV s n t d] w fun e w' => e = .returned (.int .i64 (k : Int)) ∧ Below w.heap.size w w' := by
 obtain ⟨S, hS⟩ : ∃ S, w.heap.size = S := ⟨_, rfl⟩
 obtain ⟨W0, hW0⟩ : ∃ W, w.alloc (boxR s n t d 27) = W := ⟨_, rfl⟩
 have I := (Bs.start w hS).pushRat hS s n t d 27
 rw [hW0] at I
 replace I := Lib.hid I
 obtain ⟨z1, hz1⟩ : ∃ z, sgn s n = z := ⟨_, rfl⟩
 obtain ⟨z2, hz2⟩ : ∃ z, sgn t d = z := ⟨_, rfl⟩
 obtain ⟨L, hL⟩ : ∃ L, nl n = L := ⟨_, rfl⟩
 obtain ⟨M, hM⟩ : ∃ M, nl d = M := ⟨_, rfl⟩
 obtain ⟨c1, hc1⟩ : ∃ b, (sgn s n == s) = b := ⟨_, rfl⟩
 obtain ⟨c2, hc2⟩ : ∃ b, (sgn t d == t) = b := ⟨_, rfl⟩
 have hL32 : L ≤ 32 := by rw [← hL]; exact nl_le ((fits_dg n).1 hn.out)
 have hM32 : M ≤ 32 := by rw [← hM]; exact nl_le ((fits_dg d).1 hd.out)
 have HN1 := Lib.hid (fun W => Num_run s z1 n L W hn hz1 hL)
 have HN2 := Lib.hid (fun W => Num_run t z2 d M W hd hz2 hM)
 have HC1 := Lib.hid (fun W => canon_run s c1 n W hn hc1)
 have HC2 := Lib.hid (fun W => canon_run t c2 d W hd hc2)
 have HO := Lib.hid (fun W => One_run W)
 replace hz2 := Lib.hid hz2
 replace hM := Lib.hid hM
 replace hc1 := Lib.hid hc1
 replace hc2 := Lib.hid hc2
 clear hz1 hL hn hd
 rw [hS]
 go_enter Tryz.func13, Tryz.ntmps13
 go_upto_region 1 with (with_reducible refine wpList_box_rat rfl (.tmp 0) rfl rfl ?_)
 clear hW0
 go_cut [3, 4] (fun s3 s4 wx => ∃ (K1 K2 : Nat) (A : Option Addr) (cA : Nat) (B : Option Addr) (cB : Nat), s3 = .pointer (some ⟨K1, 0, none⟩) ∧ s4 = .pointer (some ⟨K2, 0, none⟩) ∧ Bs w S [.num K1 z1 A L cA, .num K2 z2 B M cB, .dig z1 A L cA n, .dig z2 B M cB d, .rat S s n t d] wx)
 case first =>
  refine rg_begin (fun V => Bs w S [.rat S s n t d] V) (by kernel_rfl) I.out.drew (fun hS => ?_)
  refine rg_take 0 (.pointer (some ⟨S, 0, none⟩)) rfl (by kernel_rfl) (by kernel_rfl) (by kernel_rfl) (fun _ _ _ h => h) rfl (fun w _ => ?_) hS ?_
  ·go_simp
  simp only [zA, zB, zC, Act.put, zD, zE, zF]
  refine rg_take 1 (intV s n) rfl (by kernel_rfl) (by kernel_rfl) (by kernel_rfl) (fun _ _ _ h => h) rfl (fun w hSw => ld_int (.tmp 5) rfl rfl (hSw.rat 0 rfl).num) hS ?_
  simp only [zA, zB, zC, Act.put, zD, zE, zF]
  refine rg_take 3 (.pointer (some ⟨S, 9, none⟩)) rfl (by kernel_rfl) (by kernel_rfl) (by kernel_rfl) (fun _ _ _ h => h) rfl (fun w _ => ?_) hS ?_
  ·go_simp
  simp only [zA, zB, zC, Act.put, zD, zE, zF]
  refine rg_take 4 (intV t d) rfl (by kernel_rfl) (by kernel_rfl) (by kernel_rfl) (fun _ _ _ h => h) rfl (fun w hSw => ld_int (.tmp 8) rfl rfl (hSw.rat 0 rfl).den) hS ?_
  simp only [zA, zB, zC, Act.put, zD, zE, zF]
  clear I
  generalize W0.drew = V0 at *
  refine rg_three 2 6 7 (by kernel_rfl) ?_ ?_ ?_
  ·refine rs_of rfl rfl (wp_callx rfl enters_num8 rfl (HN1.out _) (fun q2 V1 hV => ⟨(hS.sub (.cons_cons _ .slnil)).below hV.2, ?_⟩))
   obtain ⟨A2, c2⟩ := q2
   obtain ⟨hg2, hV⟩ := hV
   replace hS := (hS.below hV).pushDig hg2
   clear hV hg2
   simp only [zA, zB, zC, Act.put, zD, zE, zF]
   refine rg_three 5 6 7 (by kernel_rfl) ?_ ?_ ?_
   ·refine rs_of rfl rfl (wp_callx rfl enters_num8 rfl (HN2.out _) (fun q5 V2 hV => ⟨(hS.sub (.cons _ (.cons_cons _ .slnil))).below hV.2, ?_⟩))
    obtain ⟨A5, c5⟩ := q5
    obtain ⟨hg5, hV⟩ := hV
    replace hS := (hS.below hV).pushDig hg5
    clear hV hg5
    simp only [zA, zB, zC, Act.put, zD, zE, zF]
    refine rg_two 6 7 (by kernel_rfl) ?_ ?_
    ·refine rs_of rfl rfl (wp_value (alloc_num rfl) ⟨(hS.sub (.cons _ (.cons _ (.cons_cons _ .slnil)))).alloc _, ?_⟩)
     replace hS := hS.pushNum (k := _) rfl false none 0 0
     simp only [zA, zB, zC, Act.put, zD, zE, zF]
     generalize V2.alloc boxNZ = V3 at *
     generalize V2.heap.size = K6 at *
     refine rg_one 7 (by kernel_rfl) ?_
     refine rs_of rfl rfl (wp_value (alloc_num rfl) ⟨(hS.sub (.cons _ (.cons _ (.cons _ (.cons_cons _ .slnil))))).alloc _, ?_⟩)
     replace hS := hS.pushNum (k := _) rfl false none 0 0
     simp only [zA, zB, zC, Act.put, zD, zE, zF]
     generalize V3.alloc boxNZ = V4 at *
     generalize V3.heap.size = K7 at *
     refine rg_one 8 (by kernel_rfl) ?_
     have hSn := hS.putNum 1 rfl (z1) (A2) (L) (c2) rfl
     refine rs_of rfl rfl (stores_num (.tmp 3) (.tmp 7) rfl (t := z1) (B := A2) (M := L) (cb := c2) rfl rfl (hS.num 1 rfl) ⟨hSn.sub (.cons _ (.cons _ (.cons _ (.cons _ (.cons_cons _ .slnil))))), ?_⟩)
     replace hS := hSn
     clear hSn
     simp only [zA, zB, zC, Act.put, zD, zE, zF]
     generalize st2 V4 K6 (z1) (A2) (L) (c2) = V5 at *
     refine rg_one 9 (by kernel_rfl) ?_
     have hSn := hS.putNum 0 rfl (z2) (A5) (M) (c5) rfl
     refine rs_of rfl rfl (stores_num (.tmp 4) (.tmp 10) rfl (t := z2) (B := A5) (M := M) (cb := c5) rfl rfl (hS.num 0 rfl) ⟨hSn.sub (.cons _ (.cons _ (.cons _ (.cons _ (.cons_cons _ .slnil))))), ?_⟩)
     replace hS := hSn
     clear hSn
     simp only [zA, zB, zC, Act.put, zD, zE, zF]
     generalize st2 V5 K7 (z2) (A5) (M) (c5) = V6 at *
     refine wpAnyH_done (by kernel_rfl) ?_ _
     go_wp2_with fail
     go_meet
     replace hS := hS.front 4 rfl
     replace hS := hS.front 3 rfl
     replace hS := hS.front 4 rfl
     replace hS := hS.front 3 rfl
     replace hS := hS.front 4 rfl
     exact ⟨_, _, _, _, _, _, rfl, rfl, hS⟩
    ·refine rs_of rfl rfl (wp_value (alloc_num rfl) ⟨(hS.sub (.cons _ (.cons _ (.cons_cons _ .slnil)))).alloc _, ?_⟩)
     replace hS := hS.pushNum (k := _) rfl false none 0 0
     simp only [zA, zB, zC, Act.put, zD, zE, zF]
     generalize V2.alloc boxNZ = V7 at *
     generalize V2.heap.size = K7 at *
     refine rg_one 6 (by kernel_rfl) ?_
     refine rs_of rfl rfl (wp_value (alloc_num rfl) ⟨(hS.sub (.cons _ (.cons _ (.cons _ (.cons_cons _ .slnil))))).alloc _, ?_⟩)
     replace hS := hS.pushNum (k := _) rfl false none 0 0
     simp only [zA, zB, zC, Act.put, zD, zE, zF]
     generalize V7.alloc boxNZ = V8 at *
     generalize V7.heap.size = K6 at *
     refine rg_one 8 (by kernel_rfl) ?_
     have hSn := hS.putNum 0 rfl (z1) (A2) (L) (c2) rfl
     refine rs_of rfl rfl (stores_num (.tmp 3) (.tmp 7) rfl (t := z1) (B := A2) (M := L) (cb := c2) rfl rfl (hS.num 0 rfl) ⟨hSn.sub (.cons _ (.cons _ (.cons _ (.cons _ (.cons_cons _ .slnil))))), ?_⟩)
     replace hS := hSn
     clear hSn
     simp only [zA, zB, zC, Act.put, zD, zE, zF]
     generalize st2 V8 K6 (z1) (A2) (L) (c2) = V9 at *
     refine rg_one 9 (by kernel_rfl) ?_
     have hSn := hS.putNum 1 rfl (z2) (A5) (M) (c5) rfl
     refine rs_of rfl rfl (stores_num (.tmp 4) (.tmp 10) rfl (t := z2) (B := A5) (M := M) (cb := c5) rfl rfl (hS.num 1 rfl) ⟨hSn.sub (.cons _ (.cons _ (.cons _ (.cons _ (.cons_cons _ .slnil))))), ?_⟩)
     replace hS := hSn
     clear hSn
     simp only [zA, zB, zC, Act.put, zD, zE, zF]
     generalize st2 V9 K7 (z2) (A5) (M) (c5) = V10 at *
     refine wpAnyH_done (by kernel_rfl) ?_ _
     go_wp2_with fail
     go_meet
     replace hS := hS.front 4 rfl
     replace hS := hS.front 3 rfl
     replace hS := hS.front 4 rfl
     replace hS := hS.front 4 rfl
     replace hS := hS.front 4 rfl
     exact ⟨_, _, _, _, _, _, rfl, rfl, hS⟩
   ·refine rs_of rfl rfl (wp_value (alloc_num rfl) ⟨(hS.sub (.cons _ (.cons_cons _ .slnil))).alloc _, ?_⟩)
    replace hS := hS.pushNum (k := _) rfl false none 0 0
    simp only [zA, zB, zC, Act.put, zD, zE, zF]
    generalize V1.alloc boxNZ = V11 at *
    generalize V1.heap.size = K6 at *
    refine rg_two 5 7 (by kernel_rfl) ?_ ?_
    ·refine rs_of rfl rfl (wp_callx rfl enters_num8 rfl (HN2.out _) (fun q5 V12 hV => ⟨(hS.sub (.cons _ (.cons _ (.cons_cons _ .slnil)))).below hV.2, ?_⟩))
     obtain ⟨A5, c5⟩ := q5
     obtain ⟨hg5, hV⟩ := hV
     replace hS := (hS.below hV).pushDig hg5
     clear hV hg5
     simp only [zA, zB, zC, Act.put, zD, zE, zF]
     refine rg_one 7 (by kernel_rfl) ?_
     refine rs_of rfl rfl (wp_value (alloc_num rfl) ⟨(hS.sub (.cons _ (.cons _ (.cons _ (.cons_cons _ .slnil))))).alloc _, ?_⟩)
     replace hS := hS.pushNum (k := _) rfl false none 0 0
     simp only [zA, zB, zC, Act.put, zD, zE, zF]
     generalize V12.alloc boxNZ = V13 at *
     generalize V12.heap.size = K7 at *
     refine rg_one 8 (by kernel_rfl) ?_
     have hSn := hS.putNum 2 rfl (z1) (A2) (L) (c2) rfl
     refine rs_of rfl rfl (stores_num (.tmp 3) (.tmp 7) rfl (t := z1) (B := A2) (M := L) (cb := c2) rfl rfl (hS.num 2 rfl) ⟨hSn.sub (.cons _ (.cons _ (.cons _ (.cons _ (.cons_cons _ .slnil))))), ?_⟩)
     replace hS := hSn
     clear hSn
     simp only [zA, zB, zC, Act.put, zD, zE, zF]
     generalize st2 V13 K6 (z1) (A2) (L) (c2) = V14 at *
     refine rg_one 9 (by kernel_rfl) ?_
     have hSn := hS.putNum 0 rfl (z2) (A5) (M) (c5) rfl
     refine rs_of rfl rfl (stores_num (.tmp 4) (.tmp 10) rfl (t := z2) (B := A5) (M := M) (cb := c5) rfl rfl (hS.num 0 rfl) ⟨hSn.sub (.cons _ (.cons _ (.cons _ (.cons _ (.cons_cons _ .slnil))))), ?_⟩)
     replace hS := hSn
     clear hSn
     simp only [zA, zB, zC, Act.put, zD, zE, zF]
     generalize st2 V14 K7 (z2) (A5) (M) (c5) = V15 at *
     refine wpAnyH_done (by kernel_rfl) ?_ _
     go_wp2_with fail
     go_meet
     replace hS := hS.front 4 rfl
     replace hS := hS.front 2 rfl
     replace hS := hS.front 4 rfl
     replace hS := hS.front 3 rfl
     replace hS := hS.front 4 rfl
     exact ⟨_, _, _, _, _, _, rfl, rfl, hS⟩
    ·refine rs_of rfl rfl (wp_value (alloc_num rfl) ⟨(hS.sub (.cons _ (.cons _ (.cons_cons _ .slnil)))).alloc _, ?_⟩)
     replace hS := hS.pushNum (k := _) rfl false none 0 0
     simp only [zA, zB, zC, Act.put, zD, zE, zF]
     generalize V11.alloc boxNZ = V16 at *
     generalize V11.heap.size = K7 at *
     refine rg_one 5 (by kernel_rfl) ?_
     refine rs_of rfl rfl (wp_callx rfl enters_num8 rfl (HN2.out _) (fun q5 V17 hV => ⟨(hS.sub (.cons _ (.cons _ (.cons _ (.cons_cons _ .slnil))))).below hV.2, ?_⟩))
     obtain ⟨A5, c5⟩ := q5
     obtain ⟨hg5, hV⟩ := hV
     replace hS := (hS.below hV).pushDig hg5
     clear hV hg5
     simp only [zA, zB, zC, Act.put, zD, zE, zF]
     refine rg_one 8 (by kernel_rfl) ?_
     have hSn := hS.putNum 2 rfl (z1) (A2) (L) (c2) rfl
     refine rs_of rfl rfl (stores_num (.tmp 3) (.tmp 7) rfl (t := z1) (B := A2) (M := L) (cb := c2) rfl rfl (hS.num 2 rfl) ⟨hSn.sub (.cons _ (.cons _ (.cons _ (.cons _ (.cons_cons _ .slnil))))), ?_⟩)
     replace hS := hSn
     clear hSn
     simp only [zA, zB, zC, Act.put, zD, zE, zF]
     generalize st2 V17 K6 (z1) (A2) (L) (c2) = V18 at *
     refine rg_one 9 (by kernel_rfl) ?_
     have hSn := hS.putNum 1 rfl (z2) (A5) (M) (c5) rfl
     refine rs_of rfl rfl (stores_num (.tmp 4) (.tmp 10) rfl (t := z2) (B := A5) (M := M) (cb := c5) rfl rfl (hS.num 1 rfl) ⟨hSn.sub (.cons _ (.cons _ (.cons _ (.cons _ (.cons_cons _ .slnil))))), ?_⟩)
     replace hS := hSn
     clear hSn
     simp only [zA, zB, zC, Act.put, zD, zE, zF]
     generalize st2 V18 K7 (z2) (A5) (M) (c5) = V19 at *
     refine wpAnyH_done (by kernel_rfl) ?_ _
     go_wp2_with fail
     go_meet
     replace hS := hS.front 4 rfl
     replace hS := hS.front 1 rfl
     replace hS := hS.front 4 rfl
     replace hS := hS.front 3 rfl
     replace hS := hS.front 4 rfl
     exact ⟨_, _, _, _, _, _, rfl, rfl, hS⟩
   ·refine rs_of rfl rfl (wp_value (alloc_num rfl) ⟨(hS.sub (.cons _ (.cons_cons _ .slnil))).alloc _, ?_⟩)
    replace hS := hS.pushNum (k := _) rfl false none 0 0
    simp only [zA, zB, zC, Act.put, zD, zE, zF]
    generalize V1.alloc boxNZ = V20 at *
    generalize V1.heap.size = K7 at *
    refine rg_two 5 6 (by kernel_rfl) ?_ ?_
    ·refine rs_of rfl rfl (wp_callx rfl enters_num8 rfl (HN2.out _) (fun q5 V21 hV => ⟨(hS.sub (.cons _ (.cons _ (.cons_cons _ .slnil)))).below hV.2, ?_⟩))
     obtain ⟨A5, c5⟩ := q5
     obtain ⟨hg5, hV⟩ := hV
     replace hS := (hS.below hV).pushDig hg5
     clear hV hg5
     simp only [zA, zB, zC, Act.put, zD, zE, zF]
     refine rg_one 6 (by kernel_rfl) ?_
     refine rs_of rfl rfl (wp_value (alloc_num rfl) ⟨(hS.sub (.cons _ (.cons _ (.cons _ (.cons_cons _ .slnil))))).alloc _, ?_⟩)
     replace hS := hS.pushNum (k := _) rfl false none 0 0
     simp only [zA, zB, zC, Act.put, zD, zE, zF]
     generalize V21.alloc boxNZ = V22 at *
     generalize V21.heap.size = K6 at *
     refine rg_one 8 (by kernel_rfl) ?_
     have hSn := hS.putNum 0 rfl (z1) (A2) (L) (c2) rfl
     refine rs_of rfl rfl (stores_num (.tmp 3) (.tmp 7) rfl (t := z1) (B := A2) (M := L) (cb := c2) rfl rfl (hS.num 0 rfl) ⟨hSn.sub (.cons _ (.cons _ (.cons _ (.cons _ (.cons_cons _ .slnil))))), ?_⟩)
     replace hS := hSn
     clear hSn
     simp only [zA, zB, zC, Act.put, zD, zE, zF]
     generalize st2 V22 K6 (z1) (A2) (L) (c2) = V23 at *
     refine rg_one 9 (by kernel_rfl) ?_
     have hSn := hS.putNum 2 rfl (z2) (A5) (M) (c5) rfl
     refine rs_of rfl rfl (stores_num (.tmp 4) (.tmp 10) rfl (t := z2) (B := A5) (M := M) (cb := c5) rfl rfl (hS.num 2 rfl) ⟨hSn.sub (.cons _ (.cons _ (.cons _ (.cons _ (.cons_cons _ .slnil))))), ?_⟩)
     replace hS := hSn
     clear hSn
     simp only [zA, zB, zC, Act.put, zD, zE, zF]
     generalize st2 V23 K7 (z2) (A5) (M) (c5) = V24 at *
     refine wpAnyH_done (by kernel_rfl) ?_ _
     go_wp2_with fail
     go_meet
     replace hS := hS.front 4 rfl
     replace hS := hS.front 2 rfl
     replace hS := hS.front 4 rfl
     replace hS := hS.front 4 rfl
     replace hS := hS.front 4 rfl
     exact ⟨_, _, _, _, _, _, rfl, rfl, hS⟩
    ·refine rs_of rfl rfl (wp_value (alloc_num rfl) ⟨(hS.sub (.cons _ (.cons _ (.cons_cons _ .slnil)))).alloc _, ?_⟩)
     replace hS := hS.pushNum (k := _) rfl false none 0 0
     simp only [zA, zB, zC, Act.put, zD, zE, zF]
     generalize V20.alloc boxNZ = V25 at *
     generalize V20.heap.size = K6 at *
     refine rg_one 5 (by kernel_rfl) ?_
     refine rs_of rfl rfl (wp_callx rfl enters_num8 rfl (HN2.out _) (fun q5 V26 hV => ⟨(hS.sub (.cons _ (.cons _ (.cons _ (.cons_cons _ .slnil))))).below hV.2, ?_⟩))
     obtain ⟨A5, c5⟩ := q5
     obtain ⟨hg5, hV⟩ := hV
     replace hS := (hS.below hV).pushDig hg5
     clear hV hg5
     simp only [zA, zB, zC, Act.put, zD, zE, zF]
     refine rg_one 8 (by kernel_rfl) ?_
     have hSn := hS.putNum 1 rfl (z1) (A2) (L) (c2) rfl
     refine rs_of rfl rfl (stores_num (.tmp 3) (.tmp 7) rfl (t := z1) (B := A2) (M := L) (cb := c2) rfl rfl (hS.num 1 rfl) ⟨hSn.sub (.cons _ (.cons _ (.cons _ (.cons _ (.cons_cons _ .slnil))))), ?_⟩)
     replace hS := hSn
     clear hSn
     simp only [zA, zB, zC, Act.put, zD, zE, zF]
     generalize st2 V26 K6 (z1) (A2) (L) (c2) = V27 at *
     refine rg_one 9 (by kernel_rfl) ?_
     have hSn := hS.putNum 2 rfl (z2) (A5) (M) (c5) rfl
     refine rs_of rfl rfl (stores_num (.tmp 4) (.tmp 10) rfl (t := z2) (B := A5) (M := M) (cb := c5) rfl rfl (hS.num 2 rfl) ⟨hSn.sub (.cons _ (.cons _ (.cons _ (.cons _ (.cons_cons _ .slnil))))), ?_⟩)
     replace hS := hSn
     clear hSn
     simp only [zA, zB, zC, Act.put, zD, zE, zF]
     generalize st2 V27 K7 (z2) (A5) (M) (c5) = V28 at *
     refine wpAnyH_done (by kernel_rfl) ?_ _
     go_wp2_with fail
     go_meet
     replace hS := hS.front 4 rfl
     replace hS := hS.front 1 rfl
     replace hS := hS.front 4 rfl
     replace hS := hS.front 4 rfl
     replace hS := hS.front 4 rfl
     exact ⟨_, _, _, _, _, _, rfl, rfl, hS⟩
  ·refine rs_of rfl rfl (wp_value (alloc_num rfl) ⟨(hS.sub (.cons_cons _ .slnil)).alloc _, ?_⟩)
   replace hS := hS.pushNum (k := _) rfl false none 0 0
   simp only [zA, zB, zC, Act.put, zD, zE, zF]
   generalize V0.alloc boxNZ = V29 at *
   generalize V0.heap.size = K6 at *
   refine rg_two 2 7 (by kernel_rfl) ?_ ?_
   ·refine rs_of rfl rfl (wp_callx rfl enters_num8 rfl (HN1.out _) (fun q2 V30 hV => ⟨(hS.sub (.cons _ (.cons_cons _ .slnil))).below hV.2, ?_⟩))
    obtain ⟨A2, c2⟩ := q2
    obtain ⟨hg2, hV⟩ := hV
    replace hS := (hS.below hV).pushDig hg2
    clear hV hg2
    simp only [zA, zB, zC, Act.put, zD, zE, zF]
    refine rg_two 5 7 (by kernel_rfl) ?_ ?_
    ·refine rs_of rfl rfl (wp_callx rfl enters_num8 rfl (HN2.out _) (fun q5 V31 hV => ⟨(hS.sub (.cons _ (.cons _ (.cons_cons _ .slnil)))).below hV.2, ?_⟩))
     obtain ⟨A5, c5⟩ := q5
     obtain ⟨hg5, hV⟩ := hV
     replace hS := (hS.below hV).pushDig hg5
     clear hV hg5
     simp only [zA, zB, zC, Act.put, zD, zE, zF]
     refine rg_one 7 (by kernel_rfl) ?_
     refine rs_of rfl rfl (wp_value (alloc_num rfl) ⟨(hS.sub (.cons _ (.cons _ (.cons _ (.cons_cons _ .slnil))))).alloc _, ?_⟩)
     replace hS := hS.pushNum (k := _) rfl false none 0 0
     simp only [zA, zB, zC, Act.put, zD, zE, zF]
     generalize V31.alloc boxNZ = V32 at *
     generalize V31.heap.size = K7 at *
     refine rg_one 8 (by kernel_rfl) ?_
     have hSn := hS.putNum 3 rfl (z1) (A2) (L) (c2) rfl
     refine rs_of rfl rfl (stores_num (.tmp 3) (.tmp 7) rfl (t := z1) (B := A2) (M := L) (cb := c2) rfl rfl (hS.num 3 rfl) ⟨hSn.sub (.cons _ (.cons _ (.cons _ (.cons _ (.cons_cons _ .slnil))))), ?_⟩)
     replace hS := hSn
     clear hSn
     simp only [zA, zB, zC, Act.put, zD, zE, zF]
     generalize st2 V32 K6 (z1) (A2) (L) (c2) = V33 at *
     refine rg_one 9 (by kernel_rfl) ?_
     have hSn := hS.putNum 0 rfl (z2) (A5) (M) (c5) rfl
     refine rs_of rfl rfl (stores_num (.tmp 4) (.tmp 10) rfl (t := z2) (B := A5) (M := M) (cb := c5) rfl rfl (hS.num 0 rfl) ⟨hSn.sub (.cons _ (.cons _ (.cons _ (.cons _ (.cons_cons _ .slnil))))), ?_⟩)
     replace hS := hSn
     clear hSn
     simp only [zA, zB, zC, Act.put, zD, zE, zF]
     generalize st2 V33 K7 (z2) (A5) (M) (c5) = V34 at *
     refine wpAnyH_done (by kernel_rfl) ?_ _
     go_wp2_with fail
     go_meet
     replace hS := hS.front 4 rfl
     replace hS := hS.front 2 rfl
     replace hS := hS.front 3 rfl
     replace hS := hS.front 3 rfl
     replace hS := hS.front 4 rfl
     exact ⟨_, _, _, _, _, _, rfl, rfl, hS⟩
    ·refine rs_of rfl rfl (wp_value (alloc_num rfl) ⟨(hS.sub (.cons _ (.cons _ (.cons_cons _ .slnil)))).alloc _, ?_⟩)
     replace hS := hS.pushNum (k := _) rfl false none 0 0
     simp only [zA, zB, zC, Act.put, zD, zE, zF]
     generalize V30.alloc boxNZ = V35 at *
     generalize V30.heap.size = K7 at *
     refine rg_one 5 (by kernel_rfl) ?_
     refine rs_of rfl rfl (wp_callx rfl enters_num8 rfl (HN2.out _) (fun q5 V36 hV => ⟨(hS.sub (.cons _ (.cons _ (.cons _ (.cons_cons _ .slnil))))).below hV.2, ?_⟩))
     obtain ⟨A5, c5⟩ := q5
     obtain ⟨hg5, hV⟩ := hV
     replace hS := (hS.below hV).pushDig hg5
     clear hV hg5
     simp only [zA, zB, zC, Act.put, zD, zE, zF]
     refine rg_one 8 (by kernel_rfl) ?_
     have hSn := hS.putNum 3 rfl (z1) (A2) (L) (c2) rfl
     refine rs_of rfl rfl (stores_num (.tmp 3) (.tmp 7) rfl (t := z1) (B := A2) (M := L) (cb := c2) rfl rfl (hS.num 3 rfl) ⟨hSn.sub (.cons _ (.cons _ (.cons _ (.cons _ (.cons_cons _ .slnil))))), ?_⟩)
     replace hS := hSn
     clear hSn
     simp only [zA, zB, zC, Act.put, zD, zE, zF]
     generalize st2 V36 K6 (z1) (A2) (L) (c2) = V37 at *
     refine rg_one 9 (by kernel_rfl) ?_
     have hSn := hS.putNum 1 rfl (z2) (A5) (M) (c5) rfl
     refine rs_of rfl rfl (stores_num (.tmp 4) (.tmp 10) rfl (t := z2) (B := A5) (M := M) (cb := c5) rfl rfl (hS.num 1 rfl) ⟨hSn.sub (.cons _ (.cons _ (.cons _ (.cons _ (.cons_cons _ .slnil))))), ?_⟩)
     replace hS := hSn
     clear hSn
     simp only [zA, zB, zC, Act.put, zD, zE, zF]
     generalize st2 V37 K7 (z2) (A5) (M) (c5) = V38 at *
     refine wpAnyH_done (by kernel_rfl) ?_ _
     go_wp2_with fail
     go_meet
     replace hS := hS.front 4 rfl
     replace hS := hS.front 1 rfl
     replace hS := hS.front 3 rfl
     replace hS := hS.front 3 rfl
     replace hS := hS.front 4 rfl
     exact ⟨_, _, _, _, _, _, rfl, rfl, hS⟩
   ·refine rs_of rfl rfl (wp_value (alloc_num rfl) ⟨(hS.sub (.cons _ (.cons_cons _ .slnil))).alloc _, ?_⟩)
    replace hS := hS.pushNum (k := _) rfl false none 0 0
    simp only [zA, zB, zC, Act.put, zD, zE, zF]
    generalize V29.alloc boxNZ = V39 at *
    generalize V29.heap.size = K7 at *
    refine rg_one 2 (by kernel_rfl) ?_
    refine rs_of rfl rfl (wp_callx rfl enters_num8 rfl (HN1.out _) (fun q2 V40 hV => ⟨(hS.sub (.cons _ (.cons _ (.cons_cons _ .slnil)))).below hV.2, ?_⟩))
    obtain ⟨A2, c2⟩ := q2
    obtain ⟨hg2, hV⟩ := hV
    replace hS := (hS.below hV).pushDig hg2
    clear hV hg2
    simp only [zA, zB, zC, Act.put, zD, zE, zF]
    refine rg_one 5 (by kernel_rfl) ?_
    refine rs_of rfl rfl (wp_callx rfl enters_num8 rfl (HN2.out _) (fun q5 V41 hV => ⟨(hS.sub (.cons _ (.cons _ (.cons _ (.cons_cons _ .slnil))))).below hV.2, ?_⟩))
    obtain ⟨A5, c5⟩ := q5
    obtain ⟨hg5, hV⟩ := hV
    replace hS := (hS.below hV).pushDig hg5
    clear hV hg5
    simp only [zA, zB, zC, Act.put, zD, zE, zF]
    refine rg_one 8 (by kernel_rfl) ?_
    have hSn := hS.putNum 3 rfl (z1) (A2) (L) (c2) rfl
    refine rs_of rfl rfl (stores_num (.tmp 3) (.tmp 7) rfl (t := z1) (B := A2) (M := L) (cb := c2) rfl rfl (hS.num 3 rfl) ⟨hSn.sub (.cons _ (.cons _ (.cons _ (.cons _ (.cons_cons _ .slnil))))), ?_⟩)
    replace hS := hSn
    clear hSn
    simp only [zA, zB, zC, Act.put, zD, zE, zF]
    generalize st2 V41 K6 (z1) (A2) (L) (c2) = V42 at *
    refine rg_one 9 (by kernel_rfl) ?_
    have hSn := hS.putNum 2 rfl (z2) (A5) (M) (c5) rfl
    refine rs_of rfl rfl (stores_num (.tmp 4) (.tmp 10) rfl (t := z2) (B := A5) (M := M) (cb := c5) rfl rfl (hS.num 2 rfl) ⟨hSn.sub (.cons _ (.cons _ (.cons _ (.cons _ (.cons_cons _ .slnil))))), ?_⟩)
    replace hS := hSn
    clear hSn
    simp only [zA, zB, zC, Act.put, zD, zE, zF]
    generalize st2 V42 K7 (z2) (A5) (M) (c5) = V43 at *
    refine wpAnyH_done (by kernel_rfl) ?_ _
    go_wp2_with fail
    go_meet
    replace hS := hS.front 4 rfl
    replace hS := hS.front 1 rfl
    replace hS := hS.front 2 rfl
    replace hS := hS.front 3 rfl
    replace hS := hS.front 4 rfl
    exact ⟨_, _, _, _, _, _, rfl, rfl, hS⟩
  ·refine rs_of rfl rfl (wp_value (alloc_num rfl) ⟨(hS.sub (.cons_cons _ .slnil)).alloc _, ?_⟩)
   replace hS := hS.pushNum (k := _) rfl false none 0 0
   simp only [zA, zB, zC, Act.put, zD, zE, zF]
   generalize V0.alloc boxNZ = V44 at *
   generalize V0.heap.size = K7 at *
   refine rg_two 2 6 (by kernel_rfl) ?_ ?_
   ·refine rs_of rfl rfl (wp_callx rfl enters_num8 rfl (HN1.out _) (fun q2 V45 hV => ⟨(hS.sub (.cons _ (.cons_cons _ .slnil))).below hV.2, ?_⟩))
    obtain ⟨A2, c2⟩ := q2
    obtain ⟨hg2, hV⟩ := hV
    replace hS := (hS.below hV).pushDig hg2
    clear hV hg2
    simp only [zA, zB, zC, Act.put, zD, zE, zF]
    refine rg_two 5 6 (by kernel_rfl) ?_ ?_
    ·refine rs_of rfl rfl (wp_callx rfl enters_num8 rfl (HN2.out _) (fun q5 V46 hV => ⟨(hS.sub (.cons _ (.cons _ (.cons_cons _ .slnil)))).below hV.2, ?_⟩))
     obtain ⟨A5, c5⟩ := q5
     obtain ⟨hg5, hV⟩ := hV
     replace hS := (hS.below hV).pushDig hg5
     clear hV hg5
     simp only [zA, zB, zC, Act.put, zD, zE, zF]
     refine rg_one 6 (by kernel_rfl) ?_
     refine rs_of rfl rfl (wp_value (alloc_num rfl) ⟨(hS.sub (.cons _ (.cons _ (.cons _ (.cons_cons _ .slnil))))).alloc _, ?_⟩)
     replace hS := hS.pushNum (k := _) rfl false none 0 0
     simp only [zA, zB, zC, Act.put, zD, zE, zF]
     generalize V46.alloc boxNZ = V47 at *
     generalize V46.heap.size = K6 at *
     refine rg_one 8 (by kernel_rfl) ?_
     have hSn := hS.putNum 0 rfl (z1) (A2) (L) (c2) rfl
     refine rs_of rfl rfl (stores_num (.tmp 3) (.tmp 7) rfl (t := z1) (B := A2) (M := L) (cb := c2) rfl rfl (hS.num 0 rfl) ⟨hSn.sub (.cons _ (.cons _ (.cons _ (.cons _ (.cons_cons _ .slnil))))), ?_⟩)
     replace hS := hSn
     clear hSn
     simp only [zA, zB, zC, Act.put, zD, zE, zF]
     generalize st2 V47 K6 (z1) (A2) (L) (c2) = V48 at *
     refine rg_one 9 (by kernel_rfl) ?_
     have hSn := hS.putNum 3 rfl (z2) (A5) (M) (c5) rfl
     refine rs_of rfl rfl (stores_num (.tmp 4) (.tmp 10) rfl (t := z2) (B := A5) (M := M) (cb := c5) rfl rfl (hS.num 3 rfl) ⟨hSn.sub (.cons _ (.cons _ (.cons _ (.cons _ (.cons_cons _ .slnil))))), ?_⟩)
     replace hS := hSn
     clear hSn
     simp only [zA, zB, zC, Act.put, zD, zE, zF]
     generalize st2 V48 K7 (z2) (A5) (M) (c5) = V49 at *
     refine wpAnyH_done (by kernel_rfl) ?_ _
     go_wp2_with fail
     go_meet
     replace hS := hS.front 4 rfl
     replace hS := hS.front 2 rfl
     replace hS := hS.front 3 rfl
     replace hS := hS.front 4 rfl
     replace hS := hS.front 4 rfl
     exact ⟨_, _, _, _, _, _, rfl, rfl, hS⟩
    ·refine rs_of rfl rfl (wp_value (alloc_num rfl) ⟨(hS.sub (.cons _ (.cons _ (.cons_cons _ .slnil)))).alloc _, ?_⟩)
     replace hS := hS.pushNum (k := _) rfl false none 0 0
     simp only [zA, zB, zC, Act.put, zD, zE, zF]
     generalize V45.alloc boxNZ = V50 at *
     generalize V45.heap.size = K6 at *
     refine rg_one 5 (by kernel_rfl) ?_
     refine rs_of rfl rfl (wp_callx rfl enters_num8 rfl (HN2.out _) (fun q5 V51 hV => ⟨(hS.sub (.cons _ (.cons _ (.cons _ (.cons_cons _ .slnil))))).below hV.2, ?_⟩))
     obtain ⟨A5, c5⟩ := q5
     obtain ⟨hg5, hV⟩ := hV
     replace hS := (hS.below hV).pushDig hg5
     clear hV hg5
     simp only [zA, zB, zC, Act.put, zD, zE, zF]
     refine rg_one 8 (by kernel_rfl) ?_
     have hSn := hS.putNum 1 rfl (z1) (A2) (L) (c2) rfl
     refine rs_of rfl rfl (stores_num (.tmp 3) (.tmp 7) rfl (t := z1) (B := A2) (M := L) (cb := c2) rfl rfl (hS.num 1 rfl) ⟨hSn.sub (.cons _ (.cons _ (.cons _ (.cons _ (.cons_cons _ .slnil))))), ?_⟩)
     replace hS := hSn
     clear hSn
     simp only [zA, zB, zC, Act.put, zD, zE, zF]
     generalize st2 V51 K6 (z1) (A2) (L) (c2) = V52 at *
     refine rg_one 9 (by kernel_rfl) ?_
     have hSn := hS.putNum 3 rfl (z2) (A5) (M) (c5) rfl
     refine rs_of rfl rfl (stores_num (.tmp 4) (.tmp 10) rfl (t := z2) (B := A5) (M := M) (cb := c5) rfl rfl (hS.num 3 rfl) ⟨hSn.sub (.cons _ (.cons _ (.cons _ (.cons _ (.cons_cons _ .slnil))))), ?_⟩)
     replace hS := hSn
     clear hSn
     simp only [zA, zB, zC, Act.put, zD, zE, zF]
     generalize st2 V52 K7 (z2) (A5) (M) (c5) = V53 at *
     refine wpAnyH_done (by kernel_rfl) ?_ _
     go_wp2_with fail
     go_meet
     replace hS := hS.front 4 rfl
     replace hS := hS.front 1 rfl
     replace hS := hS.front 3 rfl
     replace hS := hS.front 4 rfl
     replace hS := hS.front 4 rfl
     exact ⟨_, _, _, _, _, _, rfl, rfl, hS⟩
   ·refine rs_of rfl rfl (wp_value (alloc_num rfl) ⟨(hS.sub (.cons _ (.cons_cons _ .slnil))).alloc _, ?_⟩)
    replace hS := hS.pushNum (k := _) rfl false none 0 0
    simp only [zA, zB, zC, Act.put, zD, zE, zF]
    generalize V44.alloc boxNZ = V54 at *
    generalize V44.heap.size = K6 at *
    refine rg_one 2 (by kernel_rfl) ?_
    refine rs_of rfl rfl (wp_callx rfl enters_num8 rfl (HN1.out _) (fun q2 V55 hV => ⟨(hS.sub (.cons _ (.cons _ (.cons_cons _ .slnil)))).below hV.2, ?_⟩))
    obtain ⟨A2, c2⟩ := q2
    obtain ⟨hg2, hV⟩ := hV
    replace hS := (hS.below hV).pushDig hg2
    clear hV hg2
    simp only [zA, zB, zC, Act.put, zD, zE, zF]
    refine rg_one 5 (by kernel_rfl) ?_
    refine rs_of rfl rfl (wp_callx rfl enters_num8 rfl (HN2.out _) (fun q5 V56 hV => ⟨(hS.sub (.cons _ (.cons _ (.cons _ (.cons_cons _ .slnil))))).below hV.2, ?_⟩))
    obtain ⟨A5, c5⟩ := q5
    obtain ⟨hg5, hV⟩ := hV
    replace hS := (hS.below hV).pushDig hg5
    clear hV hg5
    simp only [zA, zB, zC, Act.put, zD, zE, zF]
    refine rg_one 8 (by kernel_rfl) ?_
    have hSn := hS.putNum 2 rfl (z1) (A2) (L) (c2) rfl
    refine rs_of rfl rfl (stores_num (.tmp 3) (.tmp 7) rfl (t := z1) (B := A2) (M := L) (cb := c2) rfl rfl (hS.num 2 rfl) ⟨hSn.sub (.cons _ (.cons _ (.cons _ (.cons _ (.cons_cons _ .slnil))))), ?_⟩)
    replace hS := hSn
    clear hSn
    simp only [zA, zB, zC, Act.put, zD, zE, zF]
    generalize st2 V56 K6 (z1) (A2) (L) (c2) = V57 at *
    refine rg_one 9 (by kernel_rfl) ?_
    have hSn := hS.putNum 3 rfl (z2) (A5) (M) (c5) rfl
    refine rs_of rfl rfl (stores_num (.tmp 4) (.tmp 10) rfl (t := z2) (B := A5) (M := M) (cb := c5) rfl rfl (hS.num 3 rfl) ⟨hSn.sub (.cons _ (.cons _ (.cons _ (.cons _ (.cons_cons _ .slnil))))), ?_⟩)
    replace hS := hSn
    clear hSn
    simp only [zA, zB, zC, Act.put, zD, zE, zF]
    generalize st2 V57 K7 (z2) (A5) (M) (c5) = V58 at *
    refine wpAnyH_done (by kernel_rfl) ?_ _
    go_wp2_with fail
    go_meet
    replace hS := hS.front 4 rfl
    replace hS := hS.front 1 rfl
    replace hS := hS.front 2 rfl
    replace hS := hS.front 4 rfl
    replace hS := hS.front 4 rfl
    exact ⟨_, _, _, _, _, _, rfl, rfl, hS⟩
 case rest =>
  obtain ⟨K1, K2, A, cA, B, cB, rfl, rfl, I2⟩ := hcut
  clear I
  have I := Lib.hid I2
  clear I2 HN1 HN2
  have hcA := (I.out.dig 2 rfl).cap
  have hcB := (I.out.dig 3 rfl).cap
  unfold Cap at hcA hcB
  have HR := Lib.hid (I.out.rat 4 rfl)
  cases c1
  ·obtain rfl : k = 8 := by rw [← hk.out]; exact chk_c1 t d hc1.out
   go_wp2_with (with_reducible refine wpList_load_int rfl (.tmp 11) rfl rfl HR.out.num ?_)
   refine (HC1.out _).mono ?_
   rintro e w1 ⟨rfl, hw⟩
   replace I := Lib.hid (I.out.below hw)
   clear hw HR
   go_wp2_with fail
   go_ret
   exact ⟨rfl, I.out.bl⟩
  ·go_wp2_with (with_reducible refine wpList_load_int rfl (.tmp 11) rfl rfl HR.out.num ?_)
   refine (HC1.out _).mono ?_
   rintro e w1 ⟨rfl, hw⟩
   replace I := Lib.hid (I.out.below hw)
   clear hw HR
   have HR := Lib.hid (I.out.rat 4 rfl)
   go_wp2_with ((with_reducible refine wpList_load_int_w ?hw1 (.tmp 16) rfl rfl HR.out.den ?_); case hw1 => rfl)
   refine (HC2.out _).mono ?_
   rintro e w2 ⟨rfl, hw⟩
   replace I := Lib.hid (I.out.below hw)
   clear hw HR HC1 HC2
   obtain ⟨a0, b0, a1, b1⟩ := I.out.num 0 rfl
   obtain ⟨a2, b2, a3, b3⟩ := I.out.num 1 rfl
   cases c2
   ·obtain rfl := canon_t hc2.out
    obtain rfl : k = 8 := by rw [← hk.out]; exact chk_t s n d
    go_wp2_with fail
    go_ret
    exact ⟨rfl, I.out.bl⟩
   ·obtain rfl : t = z2 := by have := hc2.out; rw [hz2.out] at this; exact (by simpa using this : z2 = t).symm
    cases t
    ·by_cases hM0 : M = 0
     ·subst hM0
      obtain rfl : d = 0 := nl_eq_zero.1 hM.out
      obtain rfl : k = 8 := by rw [← hk.out]; exact chk_d0 s n false
      go_wp2_with fail
      go_ret
      exact ⟨rfl, I.out.bl⟩
     ·have hM1 : 0 < M := by omega
      have hd0 : d ≠ 0 := fun e => hM0 (by rw [← hM.out, e, nl_zero])
      obtain ⟨g, hg⟩ : ∃ g, Nat.gcd n d = g := ⟨_, rfl⟩
      obtain ⟨G, hG⟩ : ∃ G, nl g = G := ⟨_, rfl⟩
      obtain ⟨c, hc⟩ : ∃ c, cmpS false g false 1 = c := ⟨_, rfl⟩
      have HGC := Lib.hid (Gcd_run7 z1 A L cA n false B M cB d g G w2 (I.out.dig 2 rfl) (I.out.dig 3 rfl) (by omega) hg hG)
      have hnM : ((M : Int) == 0) = false := by simp; omega
      have hK : Hid (k = if c = 0 then 0 else 8) := by
       show _ = _
       rw [← hk.out]
       by_cases h1 : g = 1
       ·rw [if_pos (by rw [← hc]; exact (cmp_one g).2 h1), chk_ok hc1.out hd0 (by rw [hg]; exact h1)]
       ·rw [if_neg (fun h => h1 ((cmp_one g).1 (by rw [hc]; exact h))), chk_g false (by rw [hg]; exact h1)]
      go_wp2_with fail
      refine HGC.out.mono ?_
      rintro e w3 ⟨C, cc, rfl, hgg, hw⟩
      replace I := Lib.hid ((I.out.below hw).pushDig hgg)
      clear hw hgg HGC a0 b0 a1 b1 a2 b2 a3 b3
      go_wp2_with fail
      refine (HO.out _).mono ?_
      rintro e w4 ⟨⟨D, cd⟩, rfl, hgg, hw⟩
      replace I := Lib.hid ((I.out.below hw).pushDig hgg)
      clear hw hgg HO
      have HCM := Lib.hid (Cmp_run7 false C G cc g false D 1 cd 1 c w4 (I.out.dig 1 rfl) (I.out.dig 0 rfl) hc)
      go_wp2_with fail
      refine HCM.out.mono ?_
      rintro e w5 ⟨rfl, hw⟩
      replace I := Lib.hid (I.out.below hw)
      clear hw HCM hc hg hG
      by_cases hc0 : c = 0
      ·subst hc0
       obtain rfl : k = 0 := by rw [hK.out]; rfl
       go_wp2_with fail
       go_ret
       exact ⟨rfl, I.out.bl⟩
      ·obtain rfl : k = 8 := by rw [hK.out, if_neg hc0]
       have hcb : (c != 0) = true := by simp [hc0]
       go_wp2_with fail
       go_ret
       exact ⟨rfl, I.out.bl⟩
    ·obtain rfl : k = 8 := by rw [← hk.out]; exact chk_t s n d
     go_wp2_with fail
     go_ret
     exact ⟨rfl, I.out.bl⟩
end Go.Proofs.YtgoemhcngmpfbaaGreatDoor
