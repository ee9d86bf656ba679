/-
  Stage 8: the document's Scale.
-/
import Derived.Test.YtgoemhcngmpfbaaGreatDoorMx28
namespace Go.Proofs.YtgoemhcngmpfbaaGreatDoor
open Go.RowKit Go.Sort
set_option linter.unusedSimpArgs false
theorem enters_Of8 : EntersP Tryz.prog 15 := entersP_of Tryz.func15 (by kernel_rfl) rfl
theorem enters_Do8 : EntersP Tryz.prog 115 := entersP_of Tryz.func115 (by kernel_rfl) rfl
theorem Do4_run (neg : Bool) (B : Nat) (x y : Q4) (W : World) (hx : Fits x.n ∧ Fits x.d) (hB : Fits B) (h0 : x.k = 0) (hy : stp neg B x = y) :
  Calls Tryz.prog 115 #[ratV x.s x.n false x.d, ratV false B false 1, .int .i64 (if neg then 3 else 2)] W fun e w' => e = .returned (.tuple #[ratV y.s y.n false y.d, .int .i64 (y.k : Int)]) ∧ Below W.heap.size W w' := by
 obtain ⟨xs, xn, xd, xk⟩ := x
 obtain rfl : xk = 0 := h0
 subst hy
 have hf1 : Fits 1 := by show _ < _; decide
 have e : stp neg B ⟨xs, xn, xd, 0⟩ = op4 neg B ⟨xs, xn, xd, 0⟩ := rfl
 rw [e]
 cases neg
 ·exact Do_run2 xs xn false xd false B false 1 _ _ _ _ W hx.1 hx.2 hB hf1 (is_mu xs xn false xd false B false 1)
 ·exact Do_run3 xs xn false xd false B false 1 _ _ _ _ W hx.1 hx.2 hB hf1 (is_qu xs xn false xd false B false 1)
theorem stp_err {neg : Bool} {B : Nat} {x y : Q4} (h0 : x.k = 0) (hy : stp neg B x = y) (hk : y.k ≠ 0) : y = ⟨false, 0, 0, y.k⟩ := by
 have e : stp neg B x = op4 neg B x := if_pos h0
 rw [e] at hy
 subst hy
 exact op4_err hk
set_option maxRecDepth 100000 in
set_option maxHeartbeats 8000000 in
theorem Scale_run8 (s : Bool) (n : Nat) (t : Bool) (d : Nat) (base exp : Int) (y : Q4) (w : World) (hn : Hid (Fits n)) (hd : Hid (Fits d)) (hy : Hid (scl s n t d base exp = y)) :
  Calls Tryz.prog 72 #[ratV s n t d, .int .i64 base, .int .i64 exp] w fun e w' => e = .returned (.tuple #[ratV y.s y.n false y.d, .int .i64 (y.k : Int)]) ∧ Below w.heap.size w w' := by
 obtain ⟨S, hS⟩ : ∃ S, w.heap.size = S := ⟨_, rfl⟩
 obtain ⟨W0, hW0⟩ : ∃ W, (w.alloc (boxR s n t d 27)).alloc (boxRZ 27) = W := ⟨_, rfl⟩
 have I := ((Bs.start w hS).pushRat hS s n t d 27).pushRatZ (k := S + 1) (by simp [hS]) 27
 rw [hW0] at I
 replace I := Lib.hid I
 obtain ⟨K, hK⟩ : ∃ K, scK (chk s n t d) base exp = K := ⟨_, rfl⟩
 obtain ⟨k, hkk⟩ : ∃ k, chk s n t d = k := ⟨_, rfl⟩
 have HC := Lib.hid (fun W => Check_run8 s n t d k W hn hd hkk)
 have hk8 : k = 0 ∨ k = 8 := by rw [← hkk]; exact chk_le s n t d
 have hy2 := hy.out
 unfold scl at hy2
 rw [hK] at hy2
 rw [hkk] at hK
 have HK := Lib.hid hK
 have hbad : Hid (K ≠ 0 → y = ⟨false, 0, 0, K⟩) := fun h => by rw [← hy2, if_pos h]
 have hgood : Hid (K = 0 → its (decide (exp < 0)) base.natAbs ⟨s, n, d, 0⟩ exp.natAbs = y) := fun h => by rw [← hy2, if_neg (by omega)]
 replace hkk := Lib.hid hkk
 clear hK hy hy2
 rw [hS]
 have HRa := Lib.hid (I.out.rat 1 rfl)
 go_enter Tryz.func72, Tryz.ntmps72
 go_wp2_with (first | (with_reducible refine wpList_box_rat rfl (.tmp 0) rfl rfl ?_) | (with_reducible refine wpList_load_rat rfl (.tmp 3) rfl rfl HRa.out ?_))
 refine (HC.out _).mono ?_
 rintro e w1 ⟨rfl, hw⟩
 replace I := Lib.hid (I.out.below hw)
 clear hw HC HRa hW0
 rcases hk8 with rfl | rfl
 rotate_left
 ·obtain rfl := hbad.out (by rw [← HK.out]; unfold scK; simp)
  obtain rfl : K = 8 := by rw [← HK.out]; unfold scK; simp
  clear hbad hgood HK
  have HZ := Lib.hid (I.out.rat 0 rfl)
  go_wp2_with (first | (with_reducible refine wpList_build_zero rfl rfl ?_) | (with_reducible refine wpList_store_rat rfl (.tmp 6) (.tmp 12) rfl (b := S + 1) (s := false) (n := 0) (t := false) (d := 0) rfl rfl HZ.out ?_))
  have I2 := I.out.putRat 0 rfl false 0 false 0 rfl
  exact bodyPost_ret (v := .tuple #[ratV false 0 false 0, .int .i64 (8 : Nat)]) (results_rat rfl rfl rfl (I2.rat 0 rfl)) rfl ⟨rfl, I2.bl⟩
 by_cases hb : base ≠ 2 ∧ base ≠ 10
 ·have hk1 : K = 1 := by rw [← HK.out]; simp [scK, hb]
  obtain rfl := hbad.out (by omega)
  subst hk1
  have h2 : (base != 2) = true := by simp [hb.1]
  have h10 : (base != 10) = true := by simp [hb.2]
  clear hbad hgood HK
  have HZ := Lib.hid (I.out.rat 0 rfl)
  go_wp2_with (first | (with_reducible refine wpList_build_zero rfl rfl ?_) | (with_reducible refine wpList_store_rat rfl (.tmp 6) (.tmp 19) rfl (b := S + 1) (s := false) (n := 0) (t := false) (d := 0) rfl rfl HZ.out ?_))
  have I2 := I.out.putRat 0 rfl false 0 false 0 rfl
  exact bodyPost_ret (v := .tuple #[ratV false 0 false 0, .int .i64 (1 : Nat)]) (results_rat rfl rfl rfl (I2.rat 0 rfl)) rfl ⟨rfl, I2.bl⟩
 have hbb : base = 2 ∨ base = 10 := by omega
 have hb2 : Hid (base = 2 ∨ base = 10) := hbb
 have hKx : K = if 1000 < exp ∨ exp < -1000 then 9 else 0 := by rw [← HK.out]; simp only [scK, if_neg hb]; simp
 have c2 : (base != 2 && base != 10) = false := by rcases hbb with rfl | rfl <;> rfl
 by_cases hout : 1000 < exp ∨ exp < -1000
 ·obtain rfl : K = 9 := by rw [hKx, if_pos hout]
  obtain rfl := hbad.out (by omega)
  by_cases h1 : 1000 < exp
  ·have d1 : decide (1000 < exp) = true := decide_eq_true h1
   clear h1 hout hKx HK hbad hgood hb c2
   rcases hbb with rfl | rfl
   all_goals
    have HZ := Lib.hid (I.out.rat 0 rfl)
    go_wp2_with (first | (with_reducible refine wpList_build_zero rfl rfl ?_) | (with_reducible refine wpList_store_rat rfl (.tmp 6) (.tmp 26) rfl (b := S + 1) (s := false) (n := 0) (t := false) (d := 0) rfl rfl HZ.out ?_))
    have I2 := I.out.putRat 0 rfl false 0 false 0 rfl
    exact bodyPost_ret (v := .tuple #[ratV false 0 false 0, .int .i64 (9 : Nat)]) (results_rat rfl rfl rfl (I2.rat 0 rfl)) rfl ⟨rfl, I2.bl⟩
  ·have d1 : decide (1000 < exp) = false := decide_eq_false h1
   have d2 : decide (exp < -1000) = true := decide_eq_true (by omega)
   clear h1 hout hKx HK hbad hgood hb c2
   rcases hbb with rfl | rfl
   all_goals
    have HZ := Lib.hid (I.out.rat 0 rfl)
    go_wp2_with (first | (with_reducible refine wpList_build_zero rfl rfl ?_) | (with_reducible refine wpList_store_rat rfl (.tmp 6) (.tmp 26) rfl (b := S + 1) (s := false) (n := 0) (t := false) (d := 0) rfl rfl HZ.out ?_))
    have I2 := I.out.putRat 0 rfl false 0 false 0 rfl
    exact bodyPost_ret (v := .tuple #[ratV false 0 false 0, .int .i64 (9 : Nat)]) (results_rat rfl rfl rfl (I2.rat 0 rfl)) rfl ⟨rfl, I2.bl⟩
 obtain rfl : K = 0 := by rw [hKx, if_neg hout]
 have d1 : decide (1000 < exp) = false := decide_eq_false (by omega)
 have d2 : decide (exp < -1000) = false := decide_eq_false (by omega)
 obtain ⟨v1, v2, v3, v4⟩ := vld_spec (chk_zero.1 hkk.out)
 subst v2
 have hy3 := Lib.hid (hgood.out rfl)
 obtain ⟨B, hB⟩ : ∃ B, base.natAbs = B := ⟨_, rfl⟩
 obtain ⟨cnt, hcnt⟩ : ∃ c, exp.natAbs = c := ⟨_, rfl⟩
 rw [hB, hcnt] at hy3
 have hfB : Hid (Fits B) := Nat.lt_of_lt_of_le (show B < 18446744073709551616 by omega) (Nat.le_self_pow (by decide) _)
 have HOF : Hid (∀ W, Calls Tryz.prog 15 #[.int .i64 base] W fun e w' => e = .returned (ratV false B false 1) ∧ Below W.heap.size W w') := fun W =>
  Of_run8 base false B W (by omega) hB (decide_eq_false (by omega))
 have hcb : cnt ≤ 1000 := by omega
 by_cases hneg : exp < 0
 ·obtain rfl : exp = -(cnt : Int) := by omega
  rw [show decide (-(cnt : Int) < 0) = true from decide_eq_true hneg] at hy3
  clear hcnt hneg hbad hgood hKx HK v1 v3 v4 hout hb hB
  rcases hbb with rfl | rfl
  ·clear c2
   go_upto_region 7 with fail
   skip
   go_loopg [2] (cnt + 1) (fun h s2 wr => ∃ i j : Nat, s2 = .int .i64 (-(j : Int)) ∧ Hid (i + j = cnt ∧ j < h) ∧ j ≤ 1000 ∧ Hid ((its true B ⟨s, n, d, 0⟩ i).k = 0) ∧ Hid (Bs w S [.rat (S + 1) false 0 false 0, .rat S (its true B ⟨s, n, d, 0⟩ i).s (its true B ⟨s, n, d, 0⟩ i).n false (its true B ⟨s, n, d, 0⟩ i).d] wr))
   case atStart => exact ⟨0, cnt, rfl, ⟨Nat.zero_add _, Nat.lt_succ_self _⟩, hcb, rfl, I⟩
   case round =>
    clear I d1 d2 hcb
    obtain ⟨i, j, rfl, HI, hj, hk0, I⟩ := hrel
    have hfx := Lib.hid (its_fits true B ⟨s, n, d, 0⟩ ⟨hn.out, hd.out⟩ i)
    have hst : Hid (stp true B (its true B ⟨s, n, d, 0⟩ i) = its true B ⟨s, n, d, 0⟩ (i + 1)) := rfl
    have hyi : Hid (i = cnt → its true B ⟨s, n, d, 0⟩ i = y) := fun e => by rw [e]; exact hy3.out
    obtain ⟨x', hx'⟩ : ∃ x, its true B ⟨s, n, d, 0⟩ (i + 1) = x := ⟨_, rfl⟩
    rw [hx'] at hst
    replace hx' := Lib.hid hx'
    obtain ⟨x, hx⟩ : ∃ x, its true B ⟨s, n, d, 0⟩ i = x := ⟨_, rfl⟩
    rw [hx] at hst hfx hyi I hk0
    clear hx
    obtain ⟨xs, xn, xd, xk⟩ := x
    obtain ⟨zs, zn, zd, zk⟩ := x'
    obtain rfl : xk = 0 := hk0.out
    cases j with
    | zero =>
     obtain rfl : (⟨xs, xn, xd, 0⟩ : Q4) = y := hyi.out (by have := HI.out; omega)
     clear hst hyi hfx hy3 hx'
     have H0 := Lib.hid (I.out.rat 1 rfl)
     have H1 := Lib.hid (I.out.rat 0 rfl)
     go_wp2_with (first | (with_reducible refine wpList_load_rat rfl (.tmp 3) rfl rfl H0.out ?_) | (with_reducible refine wpList_store_rat rfl (.tmp 6) (.tmp 53) rfl (b := S + 1) (s := xs) (n := xn) (t := false) (d := xd) rfl rfl H1.out ?_))
     have I2 := I.out.putRat 0 rfl xs xn false xd rfl
     exact bodyPost_ret (v := .tuple #[ratV xs xn false xd, .int .i64 (0 : Nat)]) (results_rat rfl rfl rfl (I2.rat 0 rfl)) rfl ⟨rfl, I2.bl⟩
    | succ j =>
     have HDO := Lib.hid (fun W => Do4_run true B ⟨xs, xn, xd, 0⟩ ⟨zs, zn, zd, zk⟩ W hfx.out hfB.out rfl hst.out)
     have hze : Hid (zk ≠ 0 → (⟨zs, zn, zd, zk⟩ : Q4) = ⟨false, 0, 0, zk⟩) := fun h => stp_err (x := ⟨xs, xn, xd, 0⟩) (y := ⟨zs, zn, zd, zk⟩) rfl hst.out h
     have hj1 : ((j + 1 : Nat) : Int) = (j : Int) + 1 := by omega
     rw [hj1]
     have hn1 : ((-((j : Int) + 1)) != 0) = true := by simp; omega
     have hp1 : decide (0 < -((j : Int) + 1)) = false := by simp; try omega
     clear hst hyi hfx hj1
     go_upto_region 12 with fail
     refine rg_begin (fun V => Bs w S [] V) (by kernel_rfl) (I.out.drew.sub (.cons _ (.cons _ .slnil))) (fun hS => ?_)
     refine rg_take 1 (.int .i64 2) rfl (by kernel_rfl) (by kernel_rfl) (by kernel_rfl) (fun _ _ _ h => h) rfl (fun w _ => ?_) hS ?_
     ·go_simp
     simp only [zA, zB, zC, Act.put, zD, zE, zF]
     replace hS := I.out.drew
     clear I hn1 hp1
     generalize wr.drew = V0 at *
     refine rg_two 0 2 (by kernel_rfl) ?_ ?_
     ·refine rs_of rfl rfl (wp_value (ld_rat (.tmp 3) rfl rfl (hS.rat 1 rfl)) ⟨hS.sub (.cons _ (.cons _ .slnil)), ?_⟩)
      simp only [zA, zB, zC, Act.put, zD, zE, zF]
      refine rg_one 2 (by kernel_rfl) (rs_of rfl rfl (wp_call rfl enters_Of8 rfl (HOF.out _) (fun V1 hV => ⟨(hS.sub (.cons _ (.cons _ .slnil))).below hV, ?_⟩)))
      replace hS := hS.below hV
      clear hV
      simp only [zA, zB, zC, Act.put, zD, zE, zF]
      refine rg_one 3 (by kernel_rfl) (rs_of rfl rfl (wp_call rfl enters_Do8 rfl (HDO.out _) (fun V2 hV => ⟨(hS.below hV).sub (.cons _ (.cons _ .slnil)), ?_⟩)))
      replace hS := hS.below hV
      clear hV
      simp only [zA, zB, zC, Act.put, zD, zE, zF]
      have hT := hS
      replace hS : Bs w S [] V2 := hS.sub (.cons _ (.cons _ .slnil))
      refine rg_take 4 (.tuple #[ratV zs zn false zd, .int .i64 (zk : Int)]) rfl (by kernel_rfl) (by kernel_rfl) (by kernel_rfl) (fun _ _ _ h => h) rfl (fun w _ => ?_) hS ?_
      ·go_simp
      simp only [zA, zB, zC, Act.put, zD, zE, zF]
      refine rg_take 5 (ratV zs zn false zd) rfl (by kernel_rfl) (by kernel_rfl) (by kernel_rfl) (fun _ _ _ h => h) rfl (fun w _ => ?_) hS ?_
      ·go_simp
      simp only [zA, zB, zC, Act.put, zD, zE, zF]
      refine rg_take 6 (.int .i64 (zk : Int)) rfl (by kernel_rfl) (by kernel_rfl) (by kernel_rfl) (fun _ _ _ h => h) rfl (fun w _ => ?_) hS ?_
      ·go_simp
      simp only [zA, zB, zC, Act.put, zD, zE, zF]
      replace hS := hT
      clear hT
      have hSn := hS.putRat 1 rfl zs zn false zd rfl
      refine rg_one 7 (by kernel_rfl) (rs_of rfl rfl (stores_rat (.tmp 3) (.tmp 45) rfl (s := zs) (n := zn) (t := false) (d := zd) rfl rfl (hS.rat 1 rfl) ⟨hSn.sub (.cons _ (.cons _ .slnil)), ?_⟩))
      replace hS := hSn.sub (l' := []) (.cons _ (.cons _ .slnil))
      simp only [zA, zB, zC, Act.put, zD, zE, zF]
      generalize st18 V2 S zs zn false zd = V3 at *
      refine rg_take 8 (.int .i64 (zk : Int)) rfl (by kernel_rfl) (by kernel_rfl) (by kernel_rfl) (fun _ _ _ h => h) rfl (fun w _ => ?_) hS ?_
      ·go_simp
      simp only [zA, zB, zC, Act.put, zD, zE, zF]
      refine wpAnyH_done (by kernel_rfl) ?_ _
      have I := Lib.hid hSn
      clear hS hSn
      by_cases hz : zk = 0
      ·subst hz
       have e0 : (((0 : Nat) : Int) != 0) = false := rfl
       go_wp2_with fail
       go_roundg (j + 1)
       case measure => have := HI.out; omega
       case rel => exact ⟨i + 1, j, by go_num, by show _ ∧ _; have := HI.out; omega, by omega, by show Q4.k _ = 0; rw [hx'.out], by show Bs _ _ _ _; rw [hx'.out]; exact I.out⟩
      ·have hzz := hze.out hz
       have hyy : Hid (y = ⟨false, 0, 0, zk⟩) := by
        show y = _
        rw [← hy3.out]
        have := its_stuck (hx'.out.trans hzz) hz j
        rwa [show i + 1 + j = cnt by have := HI.out; omega] at this
       have hzb : ((zk : Int) != 0) = true := by simp [hz]
       obtain rfl := hyy.out
       clear hzz hyy hze hx' hy3
       have HZ := Lib.hid (I.out.rat 0 rfl)
       go_wp2_with (first | (with_reducible refine wpList_build_zero rfl rfl ?_) | (with_reducible refine wpList_store_rat rfl (.tmp 6) (.tmp 51) rfl (b := S + 1) (s := false) (n := 0) (t := false) (d := 0) rfl rfl HZ.out ?_))
       have I2 := I.out.putRat 0 rfl false 0 false 0 rfl
       exact bodyPost_ret (v := .tuple #[ratV false 0 false 0, .int .i64 (zk : Nat)]) (results_rat rfl rfl rfl (I2.rat 0 rfl)) rfl ⟨rfl, I2.bl⟩
     ·refine rs_of rfl rfl (wp_call rfl enters_Of8 rfl (HOF.out _) (fun V1 hV => ⟨(hS.sub (.cons _ (.cons _ .slnil))).below hV, ?_⟩))
      replace hS := hS.below hV
      clear hV
      simp only [zA, zB, zC, Act.put, zD, zE, zF]
      refine rg_one 0 (by kernel_rfl) (rs_of rfl rfl (wp_value (ld_rat (.tmp 3) rfl rfl (hS.rat 1 rfl)) ⟨hS.sub (.cons _ (.cons _ .slnil)), ?_⟩))
      simp only [zA, zB, zC, Act.put, zD, zE, zF]
      refine rg_one 3 (by kernel_rfl) (rs_of rfl rfl (wp_call rfl enters_Do8 rfl (HDO.out _) (fun V2 hV => ⟨(hS.below hV).sub (.cons _ (.cons _ .slnil)), ?_⟩)))
      replace hS := hS.below hV
      clear hV
      simp only [zA, zB, zC, Act.put, zD, zE, zF]
      have hT := hS
      replace hS : Bs w S [] V2 := hS.sub (.cons _ (.cons _ .slnil))
      refine rg_take 4 (.tuple #[ratV zs zn false zd, .int .i64 (zk : Int)]) rfl (by kernel_rfl) (by kernel_rfl) (by kernel_rfl) (fun _ _ _ h => h) rfl (fun w _ => ?_) hS ?_
      ·go_simp
      simp only [zA, zB, zC, Act.put, zD, zE, zF]
      refine rg_take 5 (ratV zs zn false zd) rfl (by kernel_rfl) (by kernel_rfl) (by kernel_rfl) (fun _ _ _ h => h) rfl (fun w _ => ?_) hS ?_
      ·go_simp
      simp only [zA, zB, zC, Act.put, zD, zE, zF]
      refine rg_take 6 (.int .i64 (zk : Int)) rfl (by kernel_rfl) (by kernel_rfl) (by kernel_rfl) (fun _ _ _ h => h) rfl (fun w _ => ?_) hS ?_
      ·go_simp
      simp only [zA, zB, zC, Act.put, zD, zE, zF]
      replace hS := hT
      clear hT
      have hSn := hS.putRat 1 rfl zs zn false zd rfl
      refine rg_one 7 (by kernel_rfl) (rs_of rfl rfl (stores_rat (.tmp 3) (.tmp 45) rfl (s := zs) (n := zn) (t := false) (d := zd) rfl rfl (hS.rat 1 rfl) ⟨hSn.sub (.cons _ (.cons _ .slnil)), ?_⟩))
      replace hS := hSn.sub (l' := []) (.cons _ (.cons _ .slnil))
      simp only [zA, zB, zC, Act.put, zD, zE, zF]
      generalize st18 V2 S zs zn false zd = V3 at *
      refine rg_take 8 (.int .i64 (zk : Int)) rfl (by kernel_rfl) (by kernel_rfl) (by kernel_rfl) (fun _ _ _ h => h) rfl (fun w _ => ?_) hS ?_
      ·go_simp
      simp only [zA, zB, zC, Act.put, zD, zE, zF]
      refine wpAnyH_done (by kernel_rfl) ?_ _
      have I := Lib.hid hSn
      clear hS hSn
      by_cases hz : zk = 0
      ·subst hz
       have e0 : (((0 : Nat) : Int) != 0) = false := rfl
       go_wp2_with fail
       go_roundg (j + 1)
       case measure => have := HI.out; omega
       case rel => exact ⟨i + 1, j, by go_num, by show _ ∧ _; have := HI.out; omega, by omega, by show Q4.k _ = 0; rw [hx'.out], by show Bs _ _ _ _; rw [hx'.out]; exact I.out⟩
      ·have hzz := hze.out hz
       have hyy : Hid (y = ⟨false, 0, 0, zk⟩) := by
        show y = _
        rw [← hy3.out]
        have := its_stuck (hx'.out.trans hzz) hz j
        rwa [show i + 1 + j = cnt by have := HI.out; omega] at this
       have hzb : ((zk : Int) != 0) = true := by simp [hz]
       obtain rfl := hyy.out
       clear hzz hyy hze hx' hy3
       have HZ := Lib.hid (I.out.rat 0 rfl)
       go_wp2_with (first | (with_reducible refine wpList_build_zero rfl rfl ?_) | (with_reducible refine wpList_store_rat rfl (.tmp 6) (.tmp 51) rfl (b := S + 1) (s := false) (n := 0) (t := false) (d := 0) rfl rfl HZ.out ?_))
       have I2 := I.out.putRat 0 rfl false 0 false 0 rfl
       exact bodyPost_ret (v := .tuple #[ratV false 0 false 0, .int .i64 (zk : Nat)]) (results_rat rfl rfl rfl (I2.rat 0 rfl)) rfl ⟨rfl, I2.bl⟩
  ·clear c2
   go_upto_region 7 with fail
   skip
   go_loopg [2] (cnt + 1) (fun h s2 wr => ∃ i j : Nat, s2 = .int .i64 (-(j : Int)) ∧ Hid (i + j = cnt ∧ j < h) ∧ j ≤ 1000 ∧ Hid ((its true B ⟨s, n, d, 0⟩ i).k = 0) ∧ Hid (Bs w S [.rat (S + 1) false 0 false 0, .rat S (its true B ⟨s, n, d, 0⟩ i).s (its true B ⟨s, n, d, 0⟩ i).n false (its true B ⟨s, n, d, 0⟩ i).d] wr))
   case atStart => exact ⟨0, cnt, rfl, ⟨Nat.zero_add _, Nat.lt_succ_self _⟩, hcb, rfl, I⟩
   case round =>
    clear I d1 d2 hcb
    obtain ⟨i, j, rfl, HI, hj, hk0, I⟩ := hrel
    have hfx := Lib.hid (its_fits true B ⟨s, n, d, 0⟩ ⟨hn.out, hd.out⟩ i)
    have hst : Hid (stp true B (its true B ⟨s, n, d, 0⟩ i) = its true B ⟨s, n, d, 0⟩ (i + 1)) := rfl
    have hyi : Hid (i = cnt → its true B ⟨s, n, d, 0⟩ i = y) := fun e => by rw [e]; exact hy3.out
    obtain ⟨x', hx'⟩ : ∃ x, its true B ⟨s, n, d, 0⟩ (i + 1) = x := ⟨_, rfl⟩
    rw [hx'] at hst
    replace hx' := Lib.hid hx'
    obtain ⟨x, hx⟩ : ∃ x, its true B ⟨s, n, d, 0⟩ i = x := ⟨_, rfl⟩
    rw [hx] at hst hfx hyi I hk0
    clear hx
    obtain ⟨xs, xn, xd, xk⟩ := x
    obtain ⟨zs, zn, zd, zk⟩ := x'
    obtain rfl : xk = 0 := hk0.out
    cases j with
    | zero =>
     obtain rfl : (⟨xs, xn, xd, 0⟩ : Q4) = y := hyi.out (by have := HI.out; omega)
     clear hst hyi hfx hy3 hx'
     have H0 := Lib.hid (I.out.rat 1 rfl)
     have H1 := Lib.hid (I.out.rat 0 rfl)
     go_wp2_with (first | (with_reducible refine wpList_load_rat rfl (.tmp 3) rfl rfl H0.out ?_) | (with_reducible refine wpList_store_rat rfl (.tmp 6) (.tmp 53) rfl (b := S + 1) (s := xs) (n := xn) (t := false) (d := xd) rfl rfl H1.out ?_))
     have I2 := I.out.putRat 0 rfl xs xn false xd rfl
     exact bodyPost_ret (v := .tuple #[ratV xs xn false xd, .int .i64 (0 : Nat)]) (results_rat rfl rfl rfl (I2.rat 0 rfl)) rfl ⟨rfl, I2.bl⟩
    | succ j =>
     have HDO := Lib.hid (fun W => Do4_run true B ⟨xs, xn, xd, 0⟩ ⟨zs, zn, zd, zk⟩ W hfx.out hfB.out rfl hst.out)
     have hze : Hid (zk ≠ 0 → (⟨zs, zn, zd, zk⟩ : Q4) = ⟨false, 0, 0, zk⟩) := fun h => stp_err (x := ⟨xs, xn, xd, 0⟩) (y := ⟨zs, zn, zd, zk⟩) rfl hst.out h
     have hj1 : ((j + 1 : Nat) : Int) = (j : Int) + 1 := by omega
     rw [hj1]
     have hn1 : ((-((j : Int) + 1)) != 0) = true := by simp; omega
     have hp1 : decide (0 < -((j : Int) + 1)) = false := by simp; try omega
     clear hst hyi hfx hj1
     go_upto_region 12 with fail
     refine rg_begin (fun V => Bs w S [] V) (by kernel_rfl) (I.out.drew.sub (.cons _ (.cons _ .slnil))) (fun hS => ?_)
     refine rg_take 1 (.int .i64 10) rfl (by kernel_rfl) (by kernel_rfl) (by kernel_rfl) (fun _ _ _ h => h) rfl (fun w _ => ?_) hS ?_
     ·go_simp
     simp only [zA, zB, zC, Act.put, zD, zE, zF]
     replace hS := I.out.drew
     clear I hn1 hp1
     generalize wr.drew = V0 at *
     refine rg_two 0 2 (by kernel_rfl) ?_ ?_
     ·refine rs_of rfl rfl (wp_value (ld_rat (.tmp 3) rfl rfl (hS.rat 1 rfl)) ⟨hS.sub (.cons _ (.cons _ .slnil)), ?_⟩)
      simp only [zA, zB, zC, Act.put, zD, zE, zF]
      refine rg_one 2 (by kernel_rfl) (rs_of rfl rfl (wp_call rfl enters_Of8 rfl (HOF.out _) (fun V1 hV => ⟨(hS.sub (.cons _ (.cons _ .slnil))).below hV, ?_⟩)))
      replace hS := hS.below hV
      clear hV
      simp only [zA, zB, zC, Act.put, zD, zE, zF]
      refine rg_one 3 (by kernel_rfl) (rs_of rfl rfl (wp_call rfl enters_Do8 rfl (HDO.out _) (fun V2 hV => ⟨(hS.below hV).sub (.cons _ (.cons _ .slnil)), ?_⟩)))
      replace hS := hS.below hV
      clear hV
      simp only [zA, zB, zC, Act.put, zD, zE, zF]
      have hT := hS
      replace hS : Bs w S [] V2 := hS.sub (.cons _ (.cons _ .slnil))
      refine rg_take 4 (.tuple #[ratV zs zn false zd, .int .i64 (zk : Int)]) rfl (by kernel_rfl) (by kernel_rfl) (by kernel_rfl) (fun _ _ _ h => h) rfl (fun w _ => ?_) hS ?_
      ·go_simp
      simp only [zA, zB, zC, Act.put, zD, zE, zF]
      refine rg_take 5 (ratV zs zn false zd) rfl (by kernel_rfl) (by kernel_rfl) (by kernel_rfl) (fun _ _ _ h => h) rfl (fun w _ => ?_) hS ?_
      ·go_simp
      simp only [zA, zB, zC, Act.put, zD, zE, zF]
      refine rg_take 6 (.int .i64 (zk : Int)) rfl (by kernel_rfl) (by kernel_rfl) (by kernel_rfl) (fun _ _ _ h => h) rfl (fun w _ => ?_) hS ?_
      ·go_simp
      simp only [zA, zB, zC, Act.put, zD, zE, zF]
      replace hS := hT
      clear hT
      have hSn := hS.putRat 1 rfl zs zn false zd rfl
      refine rg_one 7 (by kernel_rfl) (rs_of rfl rfl (stores_rat (.tmp 3) (.tmp 45) rfl (s := zs) (n := zn) (t := false) (d := zd) rfl rfl (hS.rat 1 rfl) ⟨hSn.sub (.cons _ (.cons _ .slnil)), ?_⟩))
      replace hS := hSn.sub (l' := []) (.cons _ (.cons _ .slnil))
      simp only [zA, zB, zC, Act.put, zD, zE, zF]
      generalize st18 V2 S zs zn false zd = V3 at *
      refine rg_take 8 (.int .i64 (zk : Int)) rfl (by kernel_rfl) (by kernel_rfl) (by kernel_rfl) (fun _ _ _ h => h) rfl (fun w _ => ?_) hS ?_
      ·go_simp
      simp only [zA, zB, zC, Act.put, zD, zE, zF]
      refine wpAnyH_done (by kernel_rfl) ?_ _
      have I := Lib.hid hSn
      clear hS hSn
      by_cases hz : zk = 0
      ·subst hz
       have e0 : (((0 : Nat) : Int) != 0) = false := rfl
       go_wp2_with fail
       go_roundg (j + 1)
       case measure => have := HI.out; omega
       case rel => exact ⟨i + 1, j, by go_num, by show _ ∧ _; have := HI.out; omega, by omega, by show Q4.k _ = 0; rw [hx'.out], by show Bs _ _ _ _; rw [hx'.out]; exact I.out⟩
      ·have hzz := hze.out hz
       have hyy : Hid (y = ⟨false, 0, 0, zk⟩) := by
        show y = _
        rw [← hy3.out]
        have := its_stuck (hx'.out.trans hzz) hz j
        rwa [show i + 1 + j = cnt by have := HI.out; omega] at this
       have hzb : ((zk : Int) != 0) = true := by simp [hz]
       obtain rfl := hyy.out
       clear hzz hyy hze hx' hy3
       have HZ := Lib.hid (I.out.rat 0 rfl)
       go_wp2_with (first | (with_reducible refine wpList_build_zero rfl rfl ?_) | (with_reducible refine wpList_store_rat rfl (.tmp 6) (.tmp 51) rfl (b := S + 1) (s := false) (n := 0) (t := false) (d := 0) rfl rfl HZ.out ?_))
       have I2 := I.out.putRat 0 rfl false 0 false 0 rfl
       exact bodyPost_ret (v := .tuple #[ratV false 0 false 0, .int .i64 (zk : Nat)]) (results_rat rfl rfl rfl (I2.rat 0 rfl)) rfl ⟨rfl, I2.bl⟩
     ·refine rs_of rfl rfl (wp_call rfl enters_Of8 rfl (HOF.out _) (fun V1 hV => ⟨(hS.sub (.cons _ (.cons _ .slnil))).below hV, ?_⟩))
      replace hS := hS.below hV
      clear hV
      simp only [zA, zB, zC, Act.put, zD, zE, zF]
      refine rg_one 0 (by kernel_rfl) (rs_of rfl rfl (wp_value (ld_rat (.tmp 3) rfl rfl (hS.rat 1 rfl)) ⟨hS.sub (.cons _ (.cons _ .slnil)), ?_⟩))
      simp only [zA, zB, zC, Act.put, zD, zE, zF]
      refine rg_one 3 (by kernel_rfl) (rs_of rfl rfl (wp_call rfl enters_Do8 rfl (HDO.out _) (fun V2 hV => ⟨(hS.below hV).sub (.cons _ (.cons _ .slnil)), ?_⟩)))
      replace hS := hS.below hV
      clear hV
      simp only [zA, zB, zC, Act.put, zD, zE, zF]
      have hT := hS
      replace hS : Bs w S [] V2 := hS.sub (.cons _ (.cons _ .slnil))
      refine rg_take 4 (.tuple #[ratV zs zn false zd, .int .i64 (zk : Int)]) rfl (by kernel_rfl) (by kernel_rfl) (by kernel_rfl) (fun _ _ _ h => h) rfl (fun w _ => ?_) hS ?_
      ·go_simp
      simp only [zA, zB, zC, Act.put, zD, zE, zF]
      refine rg_take 5 (ratV zs zn false zd) rfl (by kernel_rfl) (by kernel_rfl) (by kernel_rfl) (fun _ _ _ h => h) rfl (fun w _ => ?_) hS ?_
      ·go_simp
      simp only [zA, zB, zC, Act.put, zD, zE, zF]
      refine rg_take 6 (.int .i64 (zk : Int)) rfl (by kernel_rfl) (by kernel_rfl) (by kernel_rfl) (fun _ _ _ h => h) rfl (fun w _ => ?_) hS ?_
      ·go_simp
      simp only [zA, zB, zC, Act.put, zD, zE, zF]
      replace hS := hT
      clear hT
      have hSn := hS.putRat 1 rfl zs zn false zd rfl
      refine rg_one 7 (by kernel_rfl) (rs_of rfl rfl (stores_rat (.tmp 3) (.tmp 45) rfl (s := zs) (n := zn) (t := false) (d := zd) rfl rfl (hS.rat 1 rfl) ⟨hSn.sub (.cons _ (.cons _ .slnil)), ?_⟩))
      replace hS := hSn.sub (l' := []) (.cons _ (.cons _ .slnil))
      simp only [zA, zB, zC, Act.put, zD, zE, zF]
      generalize st18 V2 S zs zn false zd = V3 at *
      refine rg_take 8 (.int .i64 (zk : Int)) rfl (by kernel_rfl) (by kernel_rfl) (by kernel_rfl) (fun _ _ _ h => h) rfl (fun w _ => ?_) hS ?_
      ·go_simp
      simp only [zA, zB, zC, Act.put, zD, zE, zF]
      refine wpAnyH_done (by kernel_rfl) ?_ _
      have I := Lib.hid hSn
      clear hS hSn
      by_cases hz : zk = 0
      ·subst hz
       have e0 : (((0 : Nat) : Int) != 0) = false := rfl
       go_wp2_with fail
       go_roundg (j + 1)
       case measure => have := HI.out; omega
       case rel => exact ⟨i + 1, j, by go_num, by show _ ∧ _; have := HI.out; omega, by omega, by show Q4.k _ = 0; rw [hx'.out], by show Bs _ _ _ _; rw [hx'.out]; exact I.out⟩
      ·have hzz := hze.out hz
       have hyy : Hid (y = ⟨false, 0, 0, zk⟩) := by
        show y = _
        rw [← hy3.out]
        have := its_stuck (hx'.out.trans hzz) hz j
        rwa [show i + 1 + j = cnt by have := HI.out; omega] at this
       have hzb : ((zk : Int) != 0) = true := by simp [hz]
       obtain rfl := hyy.out
       clear hzz hyy hze hx' hy3
       have HZ := Lib.hid (I.out.rat 0 rfl)
       go_wp2_with (first | (with_reducible refine wpList_build_zero rfl rfl ?_) | (with_reducible refine wpList_store_rat rfl (.tmp 6) (.tmp 51) rfl (b := S + 1) (s := false) (n := 0) (t := false) (d := 0) rfl rfl HZ.out ?_))
       have I2 := I.out.putRat 0 rfl false 0 false 0 rfl
       exact bodyPost_ret (v := .tuple #[ratV false 0 false 0, .int .i64 (zk : Nat)]) (results_rat rfl rfl rfl (I2.rat 0 rfl)) rfl ⟨rfl, I2.bl⟩
 ·obtain rfl : exp = (cnt : Int) := by omega
  rw [show decide ((cnt : Int) < 0) = false from decide_eq_false hneg] at hy3
  clear hcnt hneg hbad hgood hKx HK v1 v3 v4 hout hb hB
  rcases hbb with rfl | rfl
  ·clear c2
   go_upto_region 7 with fail
   skip
   go_loopg [2] (cnt + 1) (fun h s2 wr => ∃ i j : Nat, s2 = .int .i64 ((j : Int)) ∧ Hid (i + j = cnt ∧ j < h) ∧ j ≤ 1000 ∧ Hid ((its false B ⟨s, n, d, 0⟩ i).k = 0) ∧ Hid (Bs w S [.rat (S + 1) false 0 false 0, .rat S (its false B ⟨s, n, d, 0⟩ i).s (its false B ⟨s, n, d, 0⟩ i).n false (its false B ⟨s, n, d, 0⟩ i).d] wr))
   case atStart => exact ⟨0, cnt, rfl, ⟨Nat.zero_add _, Nat.lt_succ_self _⟩, hcb, rfl, I⟩
   case round =>
    clear I d1 d2 hcb
    obtain ⟨i, j, rfl, HI, hj, hk0, I⟩ := hrel
    have hfx := Lib.hid (its_fits false B ⟨s, n, d, 0⟩ ⟨hn.out, hd.out⟩ i)
    have hst : Hid (stp false B (its false B ⟨s, n, d, 0⟩ i) = its false B ⟨s, n, d, 0⟩ (i + 1)) := rfl
    have hyi : Hid (i = cnt → its false B ⟨s, n, d, 0⟩ i = y) := fun e => by rw [e]; exact hy3.out
    obtain ⟨x', hx'⟩ : ∃ x, its false B ⟨s, n, d, 0⟩ (i + 1) = x := ⟨_, rfl⟩
    rw [hx'] at hst
    replace hx' := Lib.hid hx'
    obtain ⟨x, hx⟩ : ∃ x, its false B ⟨s, n, d, 0⟩ i = x := ⟨_, rfl⟩
    rw [hx] at hst hfx hyi I hk0
    clear hx
    obtain ⟨xs, xn, xd, xk⟩ := x
    obtain ⟨zs, zn, zd, zk⟩ := x'
    obtain rfl : xk = 0 := hk0.out
    cases j with
    | zero =>
     obtain rfl : (⟨xs, xn, xd, 0⟩ : Q4) = y := hyi.out (by have := HI.out; omega)
     clear hst hyi hfx hy3 hx'
     have H0 := Lib.hid (I.out.rat 1 rfl)
     have H1 := Lib.hid (I.out.rat 0 rfl)
     go_wp2_with (first | (with_reducible refine wpList_load_rat rfl (.tmp 3) rfl rfl H0.out ?_) | (with_reducible refine wpList_store_rat rfl (.tmp 6) (.tmp 53) rfl (b := S + 1) (s := xs) (n := xn) (t := false) (d := xd) rfl rfl H1.out ?_))
     have I2 := I.out.putRat 0 rfl xs xn false xd rfl
     exact bodyPost_ret (v := .tuple #[ratV xs xn false xd, .int .i64 (0 : Nat)]) (results_rat rfl rfl rfl (I2.rat 0 rfl)) rfl ⟨rfl, I2.bl⟩
    | succ j =>
     have HDO := Lib.hid (fun W => Do4_run false B ⟨xs, xn, xd, 0⟩ ⟨zs, zn, zd, zk⟩ W hfx.out hfB.out rfl hst.out)
     have hze : Hid (zk ≠ 0 → (⟨zs, zn, zd, zk⟩ : Q4) = ⟨false, 0, 0, zk⟩) := fun h => stp_err (x := ⟨xs, xn, xd, 0⟩) (y := ⟨zs, zn, zd, zk⟩) rfl hst.out h
     have hj1 : ((j + 1 : Nat) : Int) = (j : Int) + 1 := by omega
     rw [hj1]
     have hn1 : ((((j : Int) + 1)) != 0) = true := by simp; omega
     have hp1 : decide (0 < ((j : Int) + 1)) = true := by simp; try omega
     clear hst hyi hfx hj1
     go_upto_region 10 with fail
     refine rg_begin (fun V => Bs w S [] V) (by kernel_rfl) (I.out.drew.sub (.cons _ (.cons _ .slnil))) (fun hS => ?_)
     refine rg_take 1 (.int .i64 2) rfl (by kernel_rfl) (by kernel_rfl) (by kernel_rfl) (fun _ _ _ h => h) rfl (fun w _ => ?_) hS ?_
     ·go_simp
     simp only [zA, zB, zC, Act.put, zD, zE, zF]
     replace hS := I.out.drew
     clear I hn1 hp1
     generalize wr.drew = V0 at *
     refine rg_two 0 2 (by kernel_rfl) ?_ ?_
     ·refine rs_of rfl rfl (wp_value (ld_rat (.tmp 3) rfl rfl (hS.rat 1 rfl)) ⟨hS.sub (.cons _ (.cons _ .slnil)), ?_⟩)
      simp only [zA, zB, zC, Act.put, zD, zE, zF]
      refine rg_one 2 (by kernel_rfl) (rs_of rfl rfl (wp_call rfl enters_Of8 rfl (HOF.out _) (fun V1 hV => ⟨(hS.sub (.cons _ (.cons _ .slnil))).below hV, ?_⟩)))
      replace hS := hS.below hV
      clear hV
      simp only [zA, zB, zC, Act.put, zD, zE, zF]
      refine rg_one 3 (by kernel_rfl) (rs_of rfl rfl (wp_call rfl enters_Do8 rfl (HDO.out _) (fun V2 hV => ⟨(hS.below hV).sub (.cons _ (.cons _ .slnil)), ?_⟩)))
      replace hS := hS.below hV
      clear hV
      simp only [zA, zB, zC, Act.put, zD, zE, zF]
      have hT := hS
      replace hS : Bs w S [] V2 := hS.sub (.cons _ (.cons _ .slnil))
      refine rg_take 4 (.tuple #[ratV zs zn false zd, .int .i64 (zk : Int)]) rfl (by kernel_rfl) (by kernel_rfl) (by kernel_rfl) (fun _ _ _ h => h) rfl (fun w _ => ?_) hS ?_
      ·go_simp
      simp only [zA, zB, zC, Act.put, zD, zE, zF]
      refine rg_take 5 (ratV zs zn false zd) rfl (by kernel_rfl) (by kernel_rfl) (by kernel_rfl) (fun _ _ _ h => h) rfl (fun w _ => ?_) hS ?_
      ·go_simp
      simp only [zA, zB, zC, Act.put, zD, zE, zF]
      refine rg_take 6 (.int .i64 (zk : Int)) rfl (by kernel_rfl) (by kernel_rfl) (by kernel_rfl) (fun _ _ _ h => h) rfl (fun w _ => ?_) hS ?_
      ·go_simp
      simp only [zA, zB, zC, Act.put, zD, zE, zF]
      replace hS := hT
      clear hT
      have hSn := hS.putRat 1 rfl zs zn false zd rfl
      refine rg_one 7 (by kernel_rfl) (rs_of rfl rfl (stores_rat (.tmp 3) (.tmp 36) rfl (s := zs) (n := zn) (t := false) (d := zd) rfl rfl (hS.rat 1 rfl) ⟨hSn.sub (.cons _ (.cons _ .slnil)), ?_⟩))
      replace hS := hSn.sub (l' := []) (.cons _ (.cons _ .slnil))
      simp only [zA, zB, zC, Act.put, zD, zE, zF]
      generalize st18 V2 S zs zn false zd = V3 at *
      refine rg_take 8 (.int .i64 (zk : Int)) rfl (by kernel_rfl) (by kernel_rfl) (by kernel_rfl) (fun _ _ _ h => h) rfl (fun w _ => ?_) hS ?_
      ·go_simp
      simp only [zA, zB, zC, Act.put, zD, zE, zF]
      refine wpAnyH_done (by kernel_rfl) ?_ _
      have I := Lib.hid hSn
      clear hS hSn
      by_cases hz : zk = 0
      ·subst hz
       have e0 : (((0 : Nat) : Int) != 0) = false := rfl
       go_wp2_with fail
       go_roundg (j + 1)
       case measure => have := HI.out; omega
       case rel => exact ⟨i + 1, j, by go_num, by show _ ∧ _; have := HI.out; omega, by omega, by show Q4.k _ = 0; rw [hx'.out], by show Bs _ _ _ _; rw [hx'.out]; exact I.out⟩
      ·have hzz := hze.out hz
       have hyy : Hid (y = ⟨false, 0, 0, zk⟩) := by
        show y = _
        rw [← hy3.out]
        have := its_stuck (hx'.out.trans hzz) hz j
        rwa [show i + 1 + j = cnt by have := HI.out; omega] at this
       have hzb : ((zk : Int) != 0) = true := by simp [hz]
       obtain rfl := hyy.out
       clear hzz hyy hze hx' hy3
       have HZ := Lib.hid (I.out.rat 0 rfl)
       go_wp2_with (first | (with_reducible refine wpList_build_zero rfl rfl ?_) | (with_reducible refine wpList_store_rat rfl (.tmp 6) (.tmp 51) rfl (b := S + 1) (s := false) (n := 0) (t := false) (d := 0) rfl rfl HZ.out ?_))
       have I2 := I.out.putRat 0 rfl false 0 false 0 rfl
       exact bodyPost_ret (v := .tuple #[ratV false 0 false 0, .int .i64 (zk : Nat)]) (results_rat rfl rfl rfl (I2.rat 0 rfl)) rfl ⟨rfl, I2.bl⟩
     ·refine rs_of rfl rfl (wp_call rfl enters_Of8 rfl (HOF.out _) (fun V1 hV => ⟨(hS.sub (.cons _ (.cons _ .slnil))).below hV, ?_⟩))
      replace hS := hS.below hV
      clear hV
      simp only [zA, zB, zC, Act.put, zD, zE, zF]
      refine rg_one 0 (by kernel_rfl) (rs_of rfl rfl (wp_value (ld_rat (.tmp 3) rfl rfl (hS.rat 1 rfl)) ⟨hS.sub (.cons _ (.cons _ .slnil)), ?_⟩))
      simp only [zA, zB, zC, Act.put, zD, zE, zF]
      refine rg_one 3 (by kernel_rfl) (rs_of rfl rfl (wp_call rfl enters_Do8 rfl (HDO.out _) (fun V2 hV => ⟨(hS.below hV).sub (.cons _ (.cons _ .slnil)), ?_⟩)))
      replace hS := hS.below hV
      clear hV
      simp only [zA, zB, zC, Act.put, zD, zE, zF]
      have hT := hS
      replace hS : Bs w S [] V2 := hS.sub (.cons _ (.cons _ .slnil))
      refine rg_take 4 (.tuple #[ratV zs zn false zd, .int .i64 (zk : Int)]) rfl (by kernel_rfl) (by kernel_rfl) (by kernel_rfl) (fun _ _ _ h => h) rfl (fun w _ => ?_) hS ?_
      ·go_simp
      simp only [zA, zB, zC, Act.put, zD, zE, zF]
      refine rg_take 5 (ratV zs zn false zd) rfl (by kernel_rfl) (by kernel_rfl) (by kernel_rfl) (fun _ _ _ h => h) rfl (fun w _ => ?_) hS ?_
      ·go_simp
      simp only [zA, zB, zC, Act.put, zD, zE, zF]
      refine rg_take 6 (.int .i64 (zk : Int)) rfl (by kernel_rfl) (by kernel_rfl) (by kernel_rfl) (fun _ _ _ h => h) rfl (fun w _ => ?_) hS ?_
      ·go_simp
      simp only [zA, zB, zC, Act.put, zD, zE, zF]
      replace hS := hT
      clear hT
      have hSn := hS.putRat 1 rfl zs zn false zd rfl
      refine rg_one 7 (by kernel_rfl) (rs_of rfl rfl (stores_rat (.tmp 3) (.tmp 36) rfl (s := zs) (n := zn) (t := false) (d := zd) rfl rfl (hS.rat 1 rfl) ⟨hSn.sub (.cons _ (.cons _ .slnil)), ?_⟩))
      replace hS := hSn.sub (l' := []) (.cons _ (.cons _ .slnil))
      simp only [zA, zB, zC, Act.put, zD, zE, zF]
      generalize st18 V2 S zs zn false zd = V3 at *
      refine rg_take 8 (.int .i64 (zk : Int)) rfl (by kernel_rfl) (by kernel_rfl) (by kernel_rfl) (fun _ _ _ h => h) rfl (fun w _ => ?_) hS ?_
      ·go_simp
      simp only [zA, zB, zC, Act.put, zD, zE, zF]
      refine wpAnyH_done (by kernel_rfl) ?_ _
      have I := Lib.hid hSn
      clear hS hSn
      by_cases hz : zk = 0
      ·subst hz
       have e0 : (((0 : Nat) : Int) != 0) = false := rfl
       go_wp2_with fail
       go_roundg (j + 1)
       case measure => have := HI.out; omega
       case rel => exact ⟨i + 1, j, by go_num, by show _ ∧ _; have := HI.out; omega, by omega, by show Q4.k _ = 0; rw [hx'.out], by show Bs _ _ _ _; rw [hx'.out]; exact I.out⟩
      ·have hzz := hze.out hz
       have hyy : Hid (y = ⟨false, 0, 0, zk⟩) := by
        show y = _
        rw [← hy3.out]
        have := its_stuck (hx'.out.trans hzz) hz j
        rwa [show i + 1 + j = cnt by have := HI.out; omega] at this
       have hzb : ((zk : Int) != 0) = true := by simp [hz]
       obtain rfl := hyy.out
       clear hzz hyy hze hx' hy3
       have HZ := Lib.hid (I.out.rat 0 rfl)
       go_wp2_with (first | (with_reducible refine wpList_build_zero rfl rfl ?_) | (with_reducible refine wpList_store_rat rfl (.tmp 6) (.tmp 51) rfl (b := S + 1) (s := false) (n := 0) (t := false) (d := 0) rfl rfl HZ.out ?_))
       have I2 := I.out.putRat 0 rfl false 0 false 0 rfl
       exact bodyPost_ret (v := .tuple #[ratV false 0 false 0, .int .i64 (zk : Nat)]) (results_rat rfl rfl rfl (I2.rat 0 rfl)) rfl ⟨rfl, I2.bl⟩
  ·clear c2
   go_upto_region 7 with fail
   skip
   go_loopg [2] (cnt + 1) (fun h s2 wr => ∃ i j : Nat, s2 = .int .i64 ((j : Int)) ∧ Hid (i + j = cnt ∧ j < h) ∧ j ≤ 1000 ∧ Hid ((its false B ⟨s, n, d, 0⟩ i).k = 0) ∧ Hid (Bs w S [.rat (S + 1) false 0 false 0, .rat S (its false B ⟨s, n, d, 0⟩ i).s (its false B ⟨s, n, d, 0⟩ i).n false (its false B ⟨s, n, d, 0⟩ i).d] wr))
   case atStart => exact ⟨0, cnt, rfl, ⟨Nat.zero_add _, Nat.lt_succ_self _⟩, hcb, rfl, I⟩
   case round =>
    clear I d1 d2 hcb
    obtain ⟨i, j, rfl, HI, hj, hk0, I⟩ := hrel
    have hfx := Lib.hid (its_fits false B ⟨s, n, d, 0⟩ ⟨hn.out, hd.out⟩ i)
    have hst : Hid (stp false B (its false B ⟨s, n, d, 0⟩ i) = its false B ⟨s, n, d, 0⟩ (i + 1)) := rfl
    have hyi : Hid (i = cnt → its false B ⟨s, n, d, 0⟩ i = y) := fun e => by rw [e]; exact hy3.out
    obtain ⟨x', hx'⟩ : ∃ x, its false B ⟨s, n, d, 0⟩ (i + 1) = x := ⟨_, rfl⟩
    rw [hx'] at hst
    replace hx' := Lib.hid hx'
    obtain ⟨x, hx⟩ : ∃ x, its false B ⟨s, n, d, 0⟩ i = x := ⟨_, rfl⟩
    rw [hx] at hst hfx hyi I hk0
    clear hx
    obtain ⟨xs, xn, xd, xk⟩ := x
    obtain ⟨zs, zn, zd, zk⟩ := x'
    obtain rfl : xk = 0 := hk0.out
    cases j with
    | zero =>
     obtain rfl : (⟨xs, xn, xd, 0⟩ : Q4) = y := hyi.out (by have := HI.out; omega)
     clear hst hyi hfx hy3 hx'
     have H0 := Lib.hid (I.out.rat 1 rfl)
     have H1 := Lib.hid (I.out.rat 0 rfl)
     go_wp2_with (first | (with_reducible refine wpList_load_rat rfl (.tmp 3) rfl rfl H0.out ?_) | (with_reducible refine wpList_store_rat rfl (.tmp 6) (.tmp 53) rfl (b := S + 1) (s := xs) (n := xn) (t := false) (d := xd) rfl rfl H1.out ?_))
     have I2 := I.out.putRat 0 rfl xs xn false xd rfl
     exact bodyPost_ret (v := .tuple #[ratV xs xn false xd, .int .i64 (0 : Nat)]) (results_rat rfl rfl rfl (I2.rat 0 rfl)) rfl ⟨rfl, I2.bl⟩
    | succ j =>
     have HDO := Lib.hid (fun W => Do4_run false B ⟨xs, xn, xd, 0⟩ ⟨zs, zn, zd, zk⟩ W hfx.out hfB.out rfl hst.out)
     have hze : Hid (zk ≠ 0 → (⟨zs, zn, zd, zk⟩ : Q4) = ⟨false, 0, 0, zk⟩) := fun h => stp_err (x := ⟨xs, xn, xd, 0⟩) (y := ⟨zs, zn, zd, zk⟩) rfl hst.out h
     have hj1 : ((j + 1 : Nat) : Int) = (j : Int) + 1 := by omega
     rw [hj1]
     have hn1 : ((((j : Int) + 1)) != 0) = true := by simp; omega
     have hp1 : decide (0 < ((j : Int) + 1)) = true := by simp; try omega
     clear hst hyi hfx hj1
     go_upto_region 10 with fail
     refine rg_begin (fun V => Bs w S [] V) (by kernel_rfl) (I.out.drew.sub (.cons _ (.cons _ .slnil))) (fun hS => ?_)
     refine rg_take 1 (.int .i64 10) rfl (by kernel_rfl) (by kernel_rfl) (by kernel_rfl) (fun _ _ _ h => h) rfl (fun w _ => ?_) hS ?_
     ·go_simp
     simp only [zA, zB, zC, Act.put, zD, zE, zF]
     replace hS := I.out.drew
     clear I hn1 hp1
     generalize wr.drew = V0 at *
     refine rg_two 0 2 (by kernel_rfl) ?_ ?_
     ·refine rs_of rfl rfl (wp_value (ld_rat (.tmp 3) rfl rfl (hS.rat 1 rfl)) ⟨hS.sub (.cons _ (.cons _ .slnil)), ?_⟩)
      simp only [zA, zB, zC, Act.put, zD, zE, zF]
      refine rg_one 2 (by kernel_rfl) (rs_of rfl rfl (wp_call rfl enters_Of8 rfl (HOF.out _) (fun V1 hV => ⟨(hS.sub (.cons _ (.cons _ .slnil))).below hV, ?_⟩)))
      replace hS := hS.below hV
      clear hV
      simp only [zA, zB, zC, Act.put, zD, zE, zF]
      refine rg_one 3 (by kernel_rfl) (rs_of rfl rfl (wp_call rfl enters_Do8 rfl (HDO.out _) (fun V2 hV => ⟨(hS.below hV).sub (.cons _ (.cons _ .slnil)), ?_⟩)))
      replace hS := hS.below hV
      clear hV
      simp only [zA, zB, zC, Act.put, zD, zE, zF]
      have hT := hS
      replace hS : Bs w S [] V2 := hS.sub (.cons _ (.cons _ .slnil))
      refine rg_take 4 (.tuple #[ratV zs zn false zd, .int .i64 (zk : Int)]) rfl (by kernel_rfl) (by kernel_rfl) (by kernel_rfl) (fun _ _ _ h => h) rfl (fun w _ => ?_) hS ?_
      ·go_simp
      simp only [zA, zB, zC, Act.put, zD, zE, zF]
      refine rg_take 5 (ratV zs zn false zd) rfl (by kernel_rfl) (by kernel_rfl) (by kernel_rfl) (fun _ _ _ h => h) rfl (fun w _ => ?_) hS ?_
      ·go_simp
      simp only [zA, zB, zC, Act.put, zD, zE, zF]
      refine rg_take 6 (.int .i64 (zk : Int)) rfl (by kernel_rfl) (by kernel_rfl) (by kernel_rfl) (fun _ _ _ h => h) rfl (fun w _ => ?_) hS ?_
      ·go_simp
      simp only [zA, zB, zC, Act.put, zD, zE, zF]
      replace hS := hT
      clear hT
      have hSn := hS.putRat 1 rfl zs zn false zd rfl
      refine rg_one 7 (by kernel_rfl) (rs_of rfl rfl (stores_rat (.tmp 3) (.tmp 36) rfl (s := zs) (n := zn) (t := false) (d := zd) rfl rfl (hS.rat 1 rfl) ⟨hSn.sub (.cons _ (.cons _ .slnil)), ?_⟩))
      replace hS := hSn.sub (l' := []) (.cons _ (.cons _ .slnil))
      simp only [zA, zB, zC, Act.put, zD, zE, zF]
      generalize st18 V2 S zs zn false zd = V3 at *
      refine rg_take 8 (.int .i64 (zk : Int)) rfl (by kernel_rfl) (by kernel_rfl) (by kernel_rfl) (fun _ _ _ h => h) rfl (fun w _ => ?_) hS ?_
      ·go_simp
      simp only [zA, zB, zC, Act.put, zD, zE, zF]
      refine wpAnyH_done (by kernel_rfl) ?_ _
      have I := Lib.hid hSn
      clear hS hSn
      by_cases hz : zk = 0
      ·subst hz
       have e0 : (((0 : Nat) : Int) != 0) = false := rfl
       go_wp2_with fail
       go_roundg (j + 1)
       case measure => have := HI.out; omega
       case rel => exact ⟨i + 1, j, by go_num, by show _ ∧ _; have := HI.out; omega, by omega, by show Q4.k _ = 0; rw [hx'.out], by show Bs _ _ _ _; rw [hx'.out]; exact I.out⟩
      ·have hzz := hze.out hz
       have hyy : Hid (y = ⟨false, 0, 0, zk⟩) := by
        show y = _
        rw [← hy3.out]
        have := its_stuck (hx'.out.trans hzz) hz j
        rwa [show i + 1 + j = cnt by have := HI.out; omega] at this
       have hzb : ((zk : Int) != 0) = true := by simp [hz]
       obtain rfl := hyy.out
       clear hzz hyy hze hx' hy3
       have HZ := Lib.hid (I.out.rat 0 rfl)
       go_wp2_with (first | (with_reducible refine wpList_build_zero rfl rfl ?_) | (with_reducible refine wpList_store_rat rfl (.tmp 6) (.tmp 51) rfl (b := S + 1) (s := false) (n := 0) (t := false) (d := 0) rfl rfl HZ.out ?_))
       have I2 := I.out.putRat 0 rfl false 0 false 0 rfl
       exact bodyPost_ret (v := .tuple #[ratV false 0 false 0, .int .i64 (zk : Nat)]) (results_rat rfl rfl rfl (I2.rat 0 rfl)) rfl ⟨rfl, I2.bl⟩
     ·refine rs_of rfl rfl (wp_call rfl enters_Of8 rfl (HOF.out _) (fun V1 hV => ⟨(hS.sub (.cons _ (.cons _ .slnil))).below hV, ?_⟩))
      replace hS := hS.below hV
      clear hV
      simp only [zA, zB, zC, Act.put, zD, zE, zF]
      refine rg_one 0 (by kernel_rfl) (rs_of rfl rfl (wp_value (ld_rat (.tmp 3) rfl rfl (hS.rat 1 rfl)) ⟨hS.sub (.cons _ (.cons _ .slnil)), ?_⟩))
      simp only [zA, zB, zC, Act.put, zD, zE, zF]
      refine rg_one 3 (by kernel_rfl) (rs_of rfl rfl (wp_call rfl enters_Do8 rfl (HDO.out _) (fun V2 hV => ⟨(hS.below hV).sub (.cons _ (.cons _ .slnil)), ?_⟩)))
      replace hS := hS.below hV
      clear hV
      simp only [zA, zB, zC, Act.put, zD, zE, zF]
      have hT := hS
      replace hS : Bs w S [] V2 := hS.sub (.cons _ (.cons _ .slnil))
      refine rg_take 4 (.tuple #[ratV zs zn false zd, .int .i64 (zk : Int)]) rfl (by kernel_rfl) (by kernel_rfl) (by kernel_rfl) (fun _ _ _ h => h) rfl (fun w _ => ?_) hS ?_
      ·go_simp
      simp only [zA, zB, zC, Act.put, zD, zE, zF]
      refine rg_take 5 (ratV zs zn false zd) rfl (by kernel_rfl) (by kernel_rfl) (by kernel_rfl) (fun _ _ _ h => h) rfl (fun w _ => ?_) hS ?_
      ·go_simp
      simp only [zA, zB, zC, Act.put, zD, zE, zF]
      refine rg_take 6 (.int .i64 (zk : Int)) rfl (by kernel_rfl) (by kernel_rfl) (by kernel_rfl) (fun _ _ _ h => h) rfl (fun w _ => ?_) hS ?_
      ·go_simp
      simp only [zA, zB, zC, Act.put, zD, zE, zF]
      replace hS := hT
      clear hT
      have hSn := hS.putRat 1 rfl zs zn false zd rfl
      refine rg_one 7 (by kernel_rfl) (rs_of rfl rfl (stores_rat (.tmp 3) (.tmp 36) rfl (s := zs) (n := zn) (t := false) (d := zd) rfl rfl (hS.rat 1 rfl) ⟨hSn.sub (.cons _ (.cons _ .slnil)), ?_⟩))
      replace hS := hSn.sub (l' := []) (.cons _ (.cons _ .slnil))
      simp only [zA, zB, zC, Act.put, zD, zE, zF]
      generalize st18 V2 S zs zn false zd = V3 at *
      refine rg_take 8 (.int .i64 (zk : Int)) rfl (by kernel_rfl) (by kernel_rfl) (by kernel_rfl) (fun _ _ _ h => h) rfl (fun w _ => ?_) hS ?_
      ·go_simp
      simp only [zA, zB, zC, Act.put, zD, zE, zF]
      refine wpAnyH_done (by kernel_rfl) ?_ _
      have I := Lib.hid hSn
      clear hS hSn
      by_cases hz : zk = 0
      ·subst hz
       have e0 : (((0 : Nat) : Int) != 0) = false := rfl
       go_wp2_with fail
       go_roundg (j + 1)
       case measure => have := HI.out; omega
       case rel => exact ⟨i + 1, j, by go_num, by show _ ∧ _; have := HI.out; omega, by omega, by show Q4.k _ = 0; rw [hx'.out], by show Bs _ _ _ _; rw [hx'.out]; exact I.out⟩
      ·have hzz := hze.out hz
       have hyy : Hid (y = ⟨false, 0, 0, zk⟩) := by
        show y = _
        rw [← hy3.out]
        have := its_stuck (hx'.out.trans hzz) hz j
        rwa [show i + 1 + j = cnt by have := HI.out; omega] at this
       have hzb : ((zk : Int) != 0) = true := by simp [hz]
       obtain rfl := hyy.out
       clear hzz hyy hze hx' hy3
       have HZ := Lib.hid (I.out.rat 0 rfl)
       go_wp2_with (first | (with_reducible refine wpList_build_zero rfl rfl ?_) | (with_reducible refine wpList_store_rat rfl (.tmp 6) (.tmp 51) rfl (b := S + 1) (s := false) (n := 0) (t := false) (d := 0) rfl rfl HZ.out ?_))
       have I2 := I.out.putRat 0 rfl false 0 false 0 rfl
       exact bodyPost_ret (v := .tuple #[ratV false 0 false 0, .int .i64 (zk : Nat)]) (results_rat rfl rfl rfl (I2.rat 0 rfl)) rfl ⟨rfl, I2.bl⟩
end Go.Proofs.YtgoemhcngmpfbaaGreatDoor
