/-
  Stage 8: ratio's Trunc and Of.
-/
import Derived.Test.YtgkhjeefcflmcaaGreatDoorMt13
import Derived.Test.YtgkhjeefcflmcaaGreatDoorMt07
import Derived.Test.YtgkhjeefcflmcaaGreatDoorMt08
namespace Go.Proofs.YtgkhjeefcflmcaaGreatDoor
open Go.RowKit Go.Sort
set_option linter.unusedSimpArgs false
theorem vld_spec {s : Bool} {n : Nat} {t : Bool} {d : Nat} (h : vld s n t d = true) : sgn s n = s ∧ t = false ∧ 0 < d ∧ Nat.gcd n d = 1 := by
 unfold vld at h
 simp only [Bool.and_eq_true, beq_iff_eq, decide_eq_true_eq, Bool.not_eq_true'] at h
 exact ⟨h.1.1.1, h.1.1.2, h.1.2, h.2⟩
set_option maxRecDepth 100000 in
set_option maxHeartbeats 4000000 in
theorem ROf_run (z : Int) (w : World) (h1 : -9223372036854775808 ≤ z) (h2 : z < 9223372036854775808) :
  Calls Tryz.prog 168 #[.int .i64 z] w fun e w' => e = .returned (ratV (decide (z < 0)) z.natAbs false 1) ∧ Below w.heap.size w w' := by
 have HO1 := Lib.hid (fun W => Of_run z W h1 h2)
 have HO2 := Lib.hid (fun W => Of_run 1 W (by decide) (by decide))
 have hO : intV (decide ((1 : Int) < 0)) (1 : Int).natAbs = intV false 1 := rfl
 rw [hO] at HO2
 obtain ⟨S, hS⟩ : ∃ S, w.heap.size = S := ⟨_, rfl⟩
 have T1 := RatAt.zero w 94
 have T2 := below_alloc w (boxRZ 94)
 have T3 : (w.alloc (boxRZ 94)).heap.size = w.heap.size + 1 := by simp
 obtain ⟨W, hW⟩ : ∃ W, w.alloc (boxRZ 94) = W := ⟨_, rfl⟩
 rw [hW] at T1 T2 T3
 rw [hS] at T1 T2 T3 ⊢
 have HT1 := Lib.hid T1
 have HT2 := Lib.hid T2
 have hz := Lib.hid T3
 generalize decide (z < 0) = s at *
 generalize hn : z.natAbs = n at *
 clear T1 T2 T3 hO h1 h2 hn
 go_enter Tryz.func168, Tryz.ntmps168
 go_wp2_with fail
 refine (HO1.out _).mono ?_
 rintro e w1 ⟨rfl, hw1⟩
 have hzz := hz.out
 have H1 := Lib.hid (HT1.out.keep hw1 (by omega))
 have HB := Lib.hid (HT2.out.trans (hw1.mono (by omega)))
 have hs1 : S + 1 ≤ w1.heap.size := Nat.le_trans (Nat.le_of_eq hzz.symm) hw1.size
 clear hw1 HT1 HT2 hW hz hzz HO1
 go_wp2_with fail
 refine (HO2.out _).mono ?_
 rintro e w2 ⟨rfl, hw2⟩
 have H2 := Lib.hid (H1.out.keep hw2 (by omega))
 have HB2 := Lib.hid (HB.out.trans (hw2.mono (by omega)))
 clear hw2 H1 HB HO2
 go_wp2_with (first | (refine wpList_build_rat rfl (.tmp 4) (.tmp 5) rfl (s := s) (n := n) (t := false) (d := 1) rfl rfl ?_) | (refine wpList_store_rat rfl (.tmp 2) (.tmp 6) rfl (b := S) (s := s) (n := n) (t := false) (d := 1) rfl rfl H2.out ?_))
 refine bodyPost_ret (v := ratV s n false 1) (results_rat1 rfl rfl (st18_at H2.out)) rfl ⟨rfl, ?_⟩
 exact (st18_but w2 S s n false 1).2.1 S w (by omega) HB2.out
end Go.Proofs.YtgkhjeefcflmcaaGreatDoor
namespace Go.Proofs.YtgkhjeefcflmcaaGreatDoor
open Go.RowKit Go.Sort
set_option linter.unusedSimpArgs false
def mulV (s : Bool) (n : Nat) (t : Bool) (d : Nat) (s' : Bool) (n' : Nat) (t' : Bool) (d' : Nat) : Value :=
 opV (kept (chk s n t d) (chk s' n' t' d')) (resS (s != s') (n * n')) (resN (n * n')) (resK (n * n')) (resS (t != t') (d * d')) (resN (d * d')) (resK (d * d'))
def quoV (s : Bool) (n : Nat) (t : Bool) (d : Nat) (s' : Bool) (n' : Nat) (t' : Bool) (d' : Nat) : Value :=
 opV (kept (kept (chk s n t d) (chk s' n' t' d')) (if n' = 0 then 10 else 0)) (resS (s != t') (n * d')) (resN (n * d')) (resK (n * d')) (resS (t != s') (d * n')) (resN (d * n')) (resK (d * n'))
set_option maxRecDepth 100000 in
set_option maxHeartbeats 4000000 in
theorem RMul_run (s : Bool) (n : Nat) (t : Bool) (d : Nat) (s' : Bool) (n' : Nat) (t' : Bool) (d' : Nat) (w : World) (hn : Hid (Fits n)) (hd : Hid (Fits d)) (hn' : Hid (Fits n')) (hd' : Hid (Fits d')) :
  Calls Tryz.prog 165 #[ratV s n t d, ratV s' n' t' d'] w fun e w' => e = .returned (mulV s n t d s' n' t' d') ∧ Below w.heap.size w w' := by
 obtain ⟨S, hS⟩ : ∃ S, w.heap.size = S := ⟨_, rfl⟩
 obtain ⟨W, hW⟩ : ∃ W, ((w.alloc (boxR s n t d 94)).alloc (boxR s' n' t' d' 94)).alloc (boxRZ 94) = W := ⟨_, rfl⟩
 have T := op_boxes w s n t d s' n' t' d' 94
 rw [hW, hS] at T
 rw [hS]
 have HT := Lib.hid T
 have hWs := Lib.hid T.2.2.2.2
 clear T
 have HBG := Lib.hid (fun W => begin_run s n t d s' n' t' d' W hn hd hn' hd')
 unfold mulV
 generalize kept (chk s n t d) (chk s' n' t' d') = k0 at *
 have HD1 : Hid (∀ W B, Hid (ErrAt W B k0) → Calls Tryz.prog 192 #[.pointer (some ⟨B, 0, none⟩), fnV 193, intV s n, intV s' n'] W fun e w' => e = .returned (intV (doS k0 (resS (s != s') (n * n'))) (doN k0 (resN (n * n')))) ∧ Ste W w' B (kept k0 (resK (n * n')))) := fun W B h => do_mul B k0 s n s' n' W h hn hn'
 have hf3 : Hid (Fits (doN k0 (resN (n * n')))) := doN_fits _ (resN_fits _)
 unfold opV
 generalize resK (n * n') = j3 at *
 generalize doS k0 (resS (s != s') (n * n')) = z3 at *
 generalize doN k0 (resN (n * n')) = r3 at *
 have HD2 : Hid (∀ W B, Hid (ErrAt W B (kept k0 j3)) → Calls Tryz.prog 192 #[.pointer (some ⟨B, 0, none⟩), fnV 193, intV t d, intV t' d'] W fun e w' => e = .returned (intV (doS (kept k0 j3) (resS (t != t') (d * d'))) (doN (kept k0 j3) (resN (d * d')))) ∧ Ste W w' B (kept (kept k0 j3) (resK (d * d')))) := fun W B h => do_mul B (kept k0 j3) t d t' d' W h hd hd'
 have hf4 : Hid (Fits (doN (kept k0 j3) (resN (d * d')))) := doN_fits _ (resN_fits _)
 generalize resK (d * d') = j4 at *
 generalize doS (kept k0 j3) (resS (t != t') (d * d')) = z4 at *
 generalize doN (kept k0 j3) (resN (d * d')) = r4 at *
 have HR := Lib.hid (fun W B (h : Hid (ErrAt W B (kept (kept k0 j3) j4))) => ratio_run B (kept (kept k0 j3) j4) z3 r3 z4 r4 W h hf3 hf4)
 generalize rtS (kept (kept k0 j3) j4) z3 r3 z4 r4 = z5 at *
 generalize rtN (kept (kept k0 j3) j4) r3 r4 = q5 at *
 generalize rtD (kept (kept k0 j3) j4) r3 r4 = p5 at *
 generalize errV (rtK (kept (kept k0 j3) j4) r4) = v5 at *
 clear hn hd hn' hd'
 go_enter Tryz.func165, Tryz.ntmps165
 go_wp2_with (first | (refine wpList_box_rat rfl (.tmp 0) rfl rfl ?_) | (refine wpList_box_rat rfl (.tmp 1) rfl rfl ?_) | (refine wpList_load_rat rfl (.tmp 2) rfl rfl HT.out.1 ?_) | (refine wpList_load_rat rfl (.tmp 3) rfl rfl HT.out.2.1 ?_))
 refine (HBG.out _).mono ?_
 rintro e w1 ⟨B, rfl, hB, hP, hw1⟩
 have hI1 : OpInv w w1 S B k0 s n t d s' n' t' d' := by
  have hz := hWs.out
  exact ⟨HT.out.1.keep hw1 (by omega), HT.out.2.1.keep hw1 (by omega), HT.out.2.2.1.keep hw1 (by omega), hP.err, HT.out.2.2.2.1.trans (hw1.mono (by omega)), by omega, hP.err.lt⟩
 have hSB := hI1.hB
 have HI4 := Lib.hid hI1
 clear hI1 hP hw1 hB hW HT hWs HBG
 go_wp2_with fail
 refine rg_begin (fun W' => RatAt W' S s n t d ∧ RatAt W' (S + 1) s' n' t' d') (by kernel_rfl) ⟨HI4.out.ra.drew, HI4.out.rb.drew⟩ (fun hS => ?_)
 refine rg_take 0 (.pointer (some ⟨B, 0, none⟩)) rfl (by kernel_rfl) (by kernel_rfl) (by kernel_rfl) (fun _ _ _ h => h) rfl (fun w _ => ?_) hS ?_
 ·go_simp
 simp only [zA, zB, zC, Act.put, zD, zE, zF]
 refine rg_take 1 (.pointer (some ⟨B, 0, none⟩)) rfl (by kernel_rfl) (by kernel_rfl) (by kernel_rfl) (fun _ _ _ h => h) rfl (fun w _ => ?_) hS ?_
 ·go_simp
 simp only [zA, zB, zC, Act.put, zD, zE, zF]
 refine rg_take 2 (.pointer (some ⟨B, 0, none⟩)) rfl (by kernel_rfl) (by kernel_rfl) (by kernel_rfl) (fun _ _ _ h => h) rfl (fun w _ => ?_) hS ?_
 ·go_simp
 simp only [zA, zB, zC, Act.put, zD, zE, zF]
 refine rg_take 3 (.pointer (some ⟨B, 0, none⟩)) rfl (by kernel_rfl) (by kernel_rfl) (by kernel_rfl) (fun _ _ _ h => h) rfl (fun w _ => ?_) hS ?_
 ·go_simp
 simp only [zA, zB, zC, Act.put, zD, zE, zF]
 refine rg_take 4 (.pointer (some ⟨S, 0, none⟩)) rfl (by kernel_rfl) (by kernel_rfl) (by kernel_rfl) (fun _ _ _ h => h) rfl (fun w _ => ?_) hS ?_
 ·go_simp
 simp only [zA, zB, zC, Act.put, zD, zE, zF]
 refine rg_take 5 (intV s n) rfl (by kernel_rfl) (by kernel_rfl) (by kernel_rfl) (fun _ _ _ h => h) rfl (fun w hSw => ld_int (.tmp 14) rfl rfl hSw.1.num) hS ?_
 simp only [zA, zB, zC, Act.put, zD, zE, zF]
 refine rg_take 6 (.pointer (some ⟨S + 1, 0, none⟩)) rfl (by kernel_rfl) (by kernel_rfl) (by kernel_rfl) (fun _ _ _ h => h) rfl (fun w _ => ?_) hS ?_
 ·go_simp
 simp only [zA, zB, zC, Act.put, zD, zE, zF]
 refine rg_take 7 (intV s' n') rfl (by kernel_rfl) (by kernel_rfl) (by kernel_rfl) (fun _ _ _ h => h) rfl (fun w hSw => ld_int (.tmp 16) rfl rfl hSw.2.num) hS ?_
 simp only [zA, zB, zC, Act.put, zD, zE, zF]
 refine rg_take 9 (.pointer (some ⟨B, 0, none⟩)) rfl (by kernel_rfl) (by kernel_rfl) (by kernel_rfl) (fun _ _ _ h => h) rfl (fun w _ => ?_) hS ?_
 ·go_simp
 simp only [zA, zB, zC, Act.put, zD, zE, zF]
 refine rg_take 10 (.pointer (some ⟨B, 0, none⟩)) rfl (by kernel_rfl) (by kernel_rfl) (by kernel_rfl) (fun _ _ _ h => h) rfl (fun w _ => ?_) hS ?_
 ·go_simp
 simp only [zA, zB, zC, Act.put, zD, zE, zF]
 refine rg_take 11 (.pointer (some ⟨B, 0, none⟩)) rfl (by kernel_rfl) (by kernel_rfl) (by kernel_rfl) (fun _ _ _ h => h) rfl (fun w _ => ?_) hS ?_
 ·go_simp
 simp only [zA, zB, zC, Act.put, zD, zE, zF]
 refine rg_take 12 (.pointer (some ⟨S, 9, none⟩)) rfl (by kernel_rfl) (by kernel_rfl) (by kernel_rfl) (fun _ _ _ h => h) rfl (fun w _ => ?_) hS ?_
 ·go_simp
 simp only [zA, zB, zC, Act.put, zD, zE, zF]
 refine rg_take 13 (intV t d) rfl (by kernel_rfl) (by kernel_rfl) (by kernel_rfl) (fun _ _ _ h => h) rfl (fun w hSw => ld_int (.tmp 22) rfl rfl hSw.1.den) hS ?_
 simp only [zA, zB, zC, Act.put, zD, zE, zF]
 refine rg_take 14 (.pointer (some ⟨S + 1, 9, none⟩)) rfl (by kernel_rfl) (by kernel_rfl) (by kernel_rfl) (fun _ _ _ h => h) rfl (fun w _ => ?_) hS ?_
 ·go_simp
 simp only [zA, zB, zC, Act.put, zD, zE, zF]
 refine rg_take 15 (intV t' d') rfl (by kernel_rfl) (by kernel_rfl) (by kernel_rfl) (fun _ _ _ h => h) rfl (fun w hSw => ld_int (.tmp 24) rfl rfl hSw.2.den) hS ?_
 simp only [zA, zB, zC, Act.put, zD, zE, zF]
 clear hS
 have hI := HI4.out.drew
 clear HI4
 refine rg_one 8 (by kernel_rfl) (rs_of rfl rfl (wp_call rfl enters_do rfl (HD1.out _ B (Lib.hid hI.er)) (fun w3 hw3 => ⟨⟨(hI.ste hw3).ra, (hI.ste hw3).rb⟩, ?_⟩)))
 have hI5 := hI.ste hw3
 clear hI hw3
 simp only [zA, zB, zC, Act.put, zD, zE, zF]
 refine rg_one 16 (by kernel_rfl) (rs_of rfl rfl (wp_call rfl enters_do rfl (HD2.out _ B (Lib.hid hI5.er)) (fun w4 hw4 => ⟨⟨(hI5.ste hw4).ra, (hI5.ste hw4).rb⟩, ?_⟩)))
 have hI6 := hI5.ste hw4
 clear hI5 hw4
 simp only [zA, zB, zC, Act.put, zD, zE, zF]
 refine rg_one 17 (by kernel_rfl) (rs_of rfl rfl (wp_call rfl enters_ratio rfl (HR.out _ B (Lib.hid hI6.er)) (fun w5 hw5 => ⟨⟨(hI6.below hw5).ra, (hI6.below hw5).rb⟩, ?_⟩)))
 have hI := hI6.below hw5
 have hS := And.intro hI.ra hI.rb
 clear hI6 hw5
 simp only [zA, zB, zC, Act.put, zD, zE, zF]
 refine rg_take 18 (ratV z5 q5 false p5) rfl (by kernel_rfl) (by kernel_rfl) (by kernel_rfl) (fun _ _ _ h => h) rfl (fun w _ => ?_) hS ?_
 ·go_simp
 simp only [zA, zB, zC, Act.put, zD, zE, zF]
 refine rg_take 19 (v5) rfl (by kernel_rfl) (by kernel_rfl) (by kernel_rfl) (fun _ _ _ h => h) rfl (fun w _ => ?_) hS ?_
 ·go_simp
 simp only [zA, zB, zC, Act.put, zD, zE, zF]
 have b5 := st18_but w5 (S + 1 + 1) z5 q5 false p5
 have hS2 := And.intro (hS.1.but b5 (by omega)) (hS.2.but b5 (by omega))
 refine rg_one 20 (by kernel_rfl) ?_
 refine rs_of rfl rfl ?_
 refine stores_rat (.tmp 4) (.tmp 28) rfl (b := S + 1 + 1) (s := z5) (n := q5) (t := false) (d := p5) rfl rfl hI.rz ⟨hS2, ?_⟩
 clear hS
 have hS := hS2
 simp only [zA, zB, zC, Act.put, zD, zE, zF]
 refine rg_take 21 (v5) rfl (by kernel_rfl) (by kernel_rfl) (by kernel_rfl) (fun _ _ _ h => h) rfl (fun w _ => ?_) hS ?_
 ·go_simp
 simp only [zA, zB, zC, Act.put, zD, zE, zF]
 refine wpAnyH_done (by kernel_rfl) ?_ _
 go_wp2_with fail
 refine bodyPost_ret (v := .tuple #[ratV z5 q5 false p5, v5]) (results_rat rfl rfl rfl (st18_at hI.rz)) rfl ⟨rfl, ?_⟩
 exact b5.2.1 S w (by omega) hI.bl
end Go.Proofs.YtgkhjeefcflmcaaGreatDoor
namespace Go.Proofs.YtgkhjeefcflmcaaGreatDoor
open Go.RowKit Go.Sort
set_option linter.unusedSimpArgs false
set_option maxRecDepth 100000 in
set_option maxHeartbeats 4000000 in
theorem RQuo_run (s : Bool) (n : Nat) (t : Bool) (d : Nat) (s' : Bool) (n' : Nat) (t' : Bool) (d' : Nat) (w : World) (hn : Hid (Fits n)) (hd : Hid (Fits d)) (hn' : Hid (Fits n')) (hd' : Hid (Fits d')) :
  Calls Tryz.prog 166 #[ratV s n t d, ratV s' n' t' d'] w fun e w' => e = .returned (quoV s n t d s' n' t' d') ∧ Below w.heap.size w w' := by
 obtain ⟨S, hS⟩ : ∃ S, w.heap.size = S := ⟨_, rfl⟩
 obtain ⟨W, hW⟩ : ∃ W, ((w.alloc (boxR s n t d 94)).alloc (boxR s' n' t' d' 94)).alloc (boxRZ 94) = W := ⟨_, rfl⟩
 have T := op_boxes w s n t d s' n' t' d' 94
 rw [hW, hS] at T
 rw [hS]
 have HT := Lib.hid T
 have hWs := Lib.hid T.2.2.2.2
 clear T
 have HBG := Lib.hid (fun W => begin_run s n t d s' n' t' d' W hn hd hn' hd')
 unfold quoV
 generalize kept (chk s n t d) (chk s' n' t' d') = k0 at *
 have HSG := Lib.hid (fun W => sign_run s' n' _ W hn' (Lib.hid rfl))
 have hkk : Hid (∃ k1, kept k0 (if n' = 0 then 10 else 0) = k1) := ⟨_, rfl⟩
 obtain ⟨k1, hk1⟩ := hkk.out
 rw [hk1]
 have HD1 : Hid (∀ W B, Hid (ErrAt W B k1) → Calls Tryz.prog 192 #[.pointer (some ⟨B, 0, none⟩), fnV 193, intV s n, intV t' d'] W fun e w' => e = .returned (intV (doS k1 (resS (s != t') (n * d'))) (doN k1 (resN (n * d')))) ∧ Ste W w' B (kept k1 (resK (n * d')))) := fun W B h => do_mul B k1 s n t' d' W h hn hd'
 have hf3 : Hid (Fits (doN k1 (resN (n * d')))) := doN_fits _ (resN_fits _)
 unfold opV
 generalize resK (n * d') = j3 at *
 generalize doS k1 (resS (s != t') (n * d')) = z3 at *
 generalize doN k1 (resN (n * d')) = r3 at *
 have HD2 : Hid (∀ W B, Hid (ErrAt W B (kept k1 j3)) → Calls Tryz.prog 192 #[.pointer (some ⟨B, 0, none⟩), fnV 193, intV t d, intV s' n'] W fun e w' => e = .returned (intV (doS (kept k1 j3) (resS (t != s') (d * n'))) (doN (kept k1 j3) (resN (d * n')))) ∧ Ste W w' B (kept (kept k1 j3) (resK (d * n')))) := fun W B h => do_mul B (kept k1 j3) t d s' n' W h hd hn'
 have hf4 : Hid (Fits (doN (kept k1 j3) (resN (d * n')))) := doN_fits _ (resN_fits _)
 generalize resK (d * n') = j4 at *
 generalize doS (kept k1 j3) (resS (t != s') (d * n')) = z4 at *
 generalize doN (kept k1 j3) (resN (d * n')) = r4 at *
 have HR := Lib.hid (fun W B (h : Hid (ErrAt W B (kept (kept k1 j3) j4))) => ratio_run B (kept (kept k1 j3) j4) z3 r3 z4 r4 W h hf3 hf4)
 generalize rtS (kept (kept k1 j3) j4) z3 r3 z4 r4 = z5 at *
 generalize rtN (kept (kept k1 j3) j4) r3 r4 = q5 at *
 generalize rtD (kept (kept k1 j3) j4) r3 r4 = p5 at *
 generalize errV (rtK (kept (kept k1 j3) j4) r4) = v5 at *
 clear hn hd hn' hd' hkk
 by_cases h0 : n' = 0
 ·have hsg : sgZ s' n' = 0 := if_pos h0
  rw [hsg] at HSG
  rw [if_pos h0] at hk1
  have HKP := fun W B h => Lib.hid (keep_run B k0 10 W h)
  rw [hk1, errV_pos (show (10 : Nat) ≠ 0 by decide)] at HKP
  have HKP := Lib.hid HKP
  clear hsg hk1 h0
  go_enter Tryz.func166, Tryz.ntmps166
  go_wp2_with (first | (refine wpList_box_rat rfl (.tmp 0) rfl rfl ?_) | (refine wpList_box_rat rfl (.tmp 1) rfl rfl ?_) | (refine wpList_load_rat rfl (.tmp 2) rfl rfl HT.out.1 ?_) | (refine wpList_load_rat rfl (.tmp 3) rfl rfl HT.out.2.1 ?_))
  refine (HBG.out _).mono ?_
  rintro e w1 ⟨B, rfl, hB, hP, hw1⟩
  have hI1 : OpInv w w1 S B k0 s n t d s' n' t' d' := by
   have hz := hWs.out
   exact ⟨HT.out.1.keep hw1 (by omega), HT.out.2.1.keep hw1 (by omega), HT.out.2.2.1.keep hw1 (by omega), hP.err, HT.out.2.2.2.1.trans (hw1.mono (by omega)), by omega, hP.err.lt⟩
  have hSB := hI1.hB
  have HI1 := Lib.hid hI1
  clear hI1 hP hw1 hB hW HT hWs HBG
  go_wp2_with (refine wpList_load_int rfl (.tmp 10) rfl rfl HI1.out.rb.num ?_)
  refine (HSG.out _).mono ?_
  rintro e w2 ⟨rfl, hw2⟩
  have HI2 := Lib.hid (HI1.out.below hw2)
  clear hw2 HI1 HSG
  go_wp2_with fail
  refine (HKP _ B (Lib.hid HI2.out.er)).out.mono ?_
  rintro e w2' ⟨rfl, hw2⟩
  have HI4 := Lib.hid (HI2.out.ste hw2)
  clear hw2 HI2 HKP
  go_wp2_with fail
  refine rg_begin (fun W' => RatAt W' S s n t d ∧ RatAt W' (S + 1) s' n' t' d') (by kernel_rfl) ⟨HI4.out.ra.drew, HI4.out.rb.drew⟩ (fun hS => ?_)
  refine rg_take 0 (.pointer (some ⟨B, 0, none⟩)) rfl (by kernel_rfl) (by kernel_rfl) (by kernel_rfl) (fun _ _ _ h => h) rfl (fun w _ => ?_) hS ?_
  ·go_simp
  simp only [zA, zB, zC, Act.put, zD, zE, zF]
  refine rg_take 1 (.pointer (some ⟨B, 0, none⟩)) rfl (by kernel_rfl) (by kernel_rfl) (by kernel_rfl) (fun _ _ _ h => h) rfl (fun w _ => ?_) hS ?_
  ·go_simp
  simp only [zA, zB, zC, Act.put, zD, zE, zF]
  refine rg_take 2 (.pointer (some ⟨B, 0, none⟩)) rfl (by kernel_rfl) (by kernel_rfl) (by kernel_rfl) (fun _ _ _ h => h) rfl (fun w _ => ?_) hS ?_
  ·go_simp
  simp only [zA, zB, zC, Act.put, zD, zE, zF]
  refine rg_take 3 (.pointer (some ⟨B, 0, none⟩)) rfl (by kernel_rfl) (by kernel_rfl) (by kernel_rfl) (fun _ _ _ h => h) rfl (fun w _ => ?_) hS ?_
  ·go_simp
  simp only [zA, zB, zC, Act.put, zD, zE, zF]
  refine rg_take 4 (.pointer (some ⟨S, 0, none⟩)) rfl (by kernel_rfl) (by kernel_rfl) (by kernel_rfl) (fun _ _ _ h => h) rfl (fun w _ => ?_) hS ?_
  ·go_simp
  simp only [zA, zB, zC, Act.put, zD, zE, zF]
  refine rg_take 5 (intV s n) rfl (by kernel_rfl) (by kernel_rfl) (by kernel_rfl) (fun _ _ _ h => h) rfl (fun w hSw => ld_int (.tmp 23) rfl rfl hSw.1.num) hS ?_
  simp only [zA, zB, zC, Act.put, zD, zE, zF]
  refine rg_take 6 (.pointer (some ⟨S + 1, 9, none⟩)) rfl (by kernel_rfl) (by kernel_rfl) (by kernel_rfl) (fun _ _ _ h => h) rfl (fun w _ => ?_) hS ?_
  ·go_simp
  simp only [zA, zB, zC, Act.put, zD, zE, zF]
  refine rg_take 7 (intV t' d') rfl (by kernel_rfl) (by kernel_rfl) (by kernel_rfl) (fun _ _ _ h => h) rfl (fun w hSw => ld_int (.tmp 25) rfl rfl hSw.2.den) hS ?_
  simp only [zA, zB, zC, Act.put, zD, zE, zF]
  refine rg_take 9 (.pointer (some ⟨B, 0, none⟩)) rfl (by kernel_rfl) (by kernel_rfl) (by kernel_rfl) (fun _ _ _ h => h) rfl (fun w _ => ?_) hS ?_
  ·go_simp
  simp only [zA, zB, zC, Act.put, zD, zE, zF]
  refine rg_take 10 (.pointer (some ⟨B, 0, none⟩)) rfl (by kernel_rfl) (by kernel_rfl) (by kernel_rfl) (fun _ _ _ h => h) rfl (fun w _ => ?_) hS ?_
  ·go_simp
  simp only [zA, zB, zC, Act.put, zD, zE, zF]
  refine rg_take 11 (.pointer (some ⟨B, 0, none⟩)) rfl (by kernel_rfl) (by kernel_rfl) (by kernel_rfl) (fun _ _ _ h => h) rfl (fun w _ => ?_) hS ?_
  ·go_simp
  simp only [zA, zB, zC, Act.put, zD, zE, zF]
  refine rg_take 12 (.pointer (some ⟨S, 9, none⟩)) rfl (by kernel_rfl) (by kernel_rfl) (by kernel_rfl) (fun _ _ _ h => h) rfl (fun w _ => ?_) hS ?_
  ·go_simp
  simp only [zA, zB, zC, Act.put, zD, zE, zF]
  refine rg_take 13 (intV t d) rfl (by kernel_rfl) (by kernel_rfl) (by kernel_rfl) (fun _ _ _ h => h) rfl (fun w hSw => ld_int (.tmp 31) rfl rfl hSw.1.den) hS ?_
  simp only [zA, zB, zC, Act.put, zD, zE, zF]
  refine rg_take 14 (.pointer (some ⟨S + 1, 0, none⟩)) rfl (by kernel_rfl) (by kernel_rfl) (by kernel_rfl) (fun _ _ _ h => h) rfl (fun w _ => ?_) hS ?_
  ·go_simp
  simp only [zA, zB, zC, Act.put, zD, zE, zF]
  refine rg_take 15 (intV s' n') rfl (by kernel_rfl) (by kernel_rfl) (by kernel_rfl) (fun _ _ _ h => h) rfl (fun w hSw => ld_int (.tmp 33) rfl rfl hSw.2.num) hS ?_
  simp only [zA, zB, zC, Act.put, zD, zE, zF]
  clear hS
  have hI := HI4.out.drew
  clear HI4
  refine rg_one 8 (by kernel_rfl) (rs_of rfl rfl (wp_call rfl enters_do rfl (HD1.out _ B (Lib.hid hI.er)) (fun w3 hw3 => ⟨⟨(hI.ste hw3).ra, (hI.ste hw3).rb⟩, ?_⟩)))
  have hI5 := hI.ste hw3
  clear hI hw3
  simp only [zA, zB, zC, Act.put, zD, zE, zF]
  refine rg_one 16 (by kernel_rfl) (rs_of rfl rfl (wp_call rfl enters_do rfl (HD2.out _ B (Lib.hid hI5.er)) (fun w4 hw4 => ⟨⟨(hI5.ste hw4).ra, (hI5.ste hw4).rb⟩, ?_⟩)))
  have hI6 := hI5.ste hw4
  clear hI5 hw4
  simp only [zA, zB, zC, Act.put, zD, zE, zF]
  refine rg_one 17 (by kernel_rfl) (rs_of rfl rfl (wp_call rfl enters_ratio rfl (HR.out _ B (Lib.hid hI6.er)) (fun w5 hw5 => ⟨⟨(hI6.below hw5).ra, (hI6.below hw5).rb⟩, ?_⟩)))
  have hI := hI6.below hw5
  have hS := And.intro hI.ra hI.rb
  clear hI6 hw5
  simp only [zA, zB, zC, Act.put, zD, zE, zF]
  refine rg_take 18 (ratV z5 q5 false p5) rfl (by kernel_rfl) (by kernel_rfl) (by kernel_rfl) (fun _ _ _ h => h) rfl (fun w _ => ?_) hS ?_
  ·go_simp
  simp only [zA, zB, zC, Act.put, zD, zE, zF]
  refine rg_take 19 (v5) rfl (by kernel_rfl) (by kernel_rfl) (by kernel_rfl) (fun _ _ _ h => h) rfl (fun w _ => ?_) hS ?_
  ·go_simp
  simp only [zA, zB, zC, Act.put, zD, zE, zF]
  have b5 := st18_but w5 (S + 1 + 1) z5 q5 false p5
  have hS2 := And.intro (hS.1.but b5 (by omega)) (hS.2.but b5 (by omega))
  refine rg_one 20 (by kernel_rfl) ?_
  refine rs_of rfl rfl ?_
  refine stores_rat (.tmp 4) (.tmp 37) rfl (b := S + 1 + 1) (s := z5) (n := q5) (t := false) (d := p5) rfl rfl hI.rz ⟨hS2, ?_⟩
  clear hS
  have hS := hS2
  simp only [zA, zB, zC, Act.put, zD, zE, zF]
  refine rg_take 21 (v5) rfl (by kernel_rfl) (by kernel_rfl) (by kernel_rfl) (fun _ _ _ h => h) rfl (fun w _ => ?_) hS ?_
  ·go_simp
  simp only [zA, zB, zC, Act.put, zD, zE, zF]
  refine wpAnyH_done (by kernel_rfl) ?_ _
  go_wp2_with fail
  refine bodyPost_ret (v := .tuple #[ratV z5 q5 false p5, v5]) (results_rat rfl rfl rfl (st18_at hI.rz)) rfl ⟨rfl, ?_⟩
  exact b5.2.1 S w (by omega) hI.bl
 ·have hsg : sgZ s' n' = if s' then -1 else 1 := if_neg h0
  rw [hsg] at HSG
  rw [if_neg h0] at hk1
  have hk2 : kept k0 0 = k0 := by unfold kept; split <;> simp_all
  rw [hk2] at hk1
  subst hk1
  have hc : ((if s' = true then (-1 : Int) else 1) == 0) = false := by cases s' <;> rfl
  generalize (if s' = true then (-1 : Int) else 1) = c at *
  clear hsg h0 hk2
  go_enter Tryz.func166, Tryz.ntmps166
  go_wp2_with (first | (refine wpList_box_rat rfl (.tmp 0) rfl rfl ?_) | (refine wpList_box_rat rfl (.tmp 1) rfl rfl ?_) | (refine wpList_load_rat rfl (.tmp 2) rfl rfl HT.out.1 ?_) | (refine wpList_load_rat rfl (.tmp 3) rfl rfl HT.out.2.1 ?_))
  refine (HBG.out _).mono ?_
  rintro e w1 ⟨B, rfl, hB, hP, hw1⟩
  have hI1 : OpInv w w1 S B k0 s n t d s' n' t' d' := by
   have hz := hWs.out
   exact ⟨HT.out.1.keep hw1 (by omega), HT.out.2.1.keep hw1 (by omega), HT.out.2.2.1.keep hw1 (by omega), hP.err, HT.out.2.2.2.1.trans (hw1.mono (by omega)), by omega, hP.err.lt⟩
  have hSB := hI1.hB
  have HI1 := Lib.hid hI1
  clear hI1 hP hw1 hB hW HT hWs HBG
  go_wp2_with (refine wpList_load_int rfl (.tmp 10) rfl rfl HI1.out.rb.num ?_)
  refine (HSG.out _).mono ?_
  rintro e w2 ⟨rfl, hw2⟩
  have HI4 := Lib.hid (HI1.out.below hw2)
  clear hw2 HI1 HSG
  go_wp2_with fail
  refine rg_begin (fun W' => RatAt W' S s n t d ∧ RatAt W' (S + 1) s' n' t' d') (by kernel_rfl) ⟨HI4.out.ra.drew, HI4.out.rb.drew⟩ (fun hS => ?_)
  refine rg_take 0 (.pointer (some ⟨B, 0, none⟩)) rfl (by kernel_rfl) (by kernel_rfl) (by kernel_rfl) (fun _ _ _ h => h) rfl (fun w _ => ?_) hS ?_
  ·go_simp
  simp only [zA, zB, zC, Act.put, zD, zE, zF]
  refine rg_take 1 (.pointer (some ⟨B, 0, none⟩)) rfl (by kernel_rfl) (by kernel_rfl) (by kernel_rfl) (fun _ _ _ h => h) rfl (fun w _ => ?_) hS ?_
  ·go_simp
  simp only [zA, zB, zC, Act.put, zD, zE, zF]
  refine rg_take 2 (.pointer (some ⟨B, 0, none⟩)) rfl (by kernel_rfl) (by kernel_rfl) (by kernel_rfl) (fun _ _ _ h => h) rfl (fun w _ => ?_) hS ?_
  ·go_simp
  simp only [zA, zB, zC, Act.put, zD, zE, zF]
  refine rg_take 3 (.pointer (some ⟨B, 0, none⟩)) rfl (by kernel_rfl) (by kernel_rfl) (by kernel_rfl) (fun _ _ _ h => h) rfl (fun w _ => ?_) hS ?_
  ·go_simp
  simp only [zA, zB, zC, Act.put, zD, zE, zF]
  refine rg_take 4 (.pointer (some ⟨S, 0, none⟩)) rfl (by kernel_rfl) (by kernel_rfl) (by kernel_rfl) (fun _ _ _ h => h) rfl (fun w _ => ?_) hS ?_
  ·go_simp
  simp only [zA, zB, zC, Act.put, zD, zE, zF]
  refine rg_take 5 (intV s n) rfl (by kernel_rfl) (by kernel_rfl) (by kernel_rfl) (fun _ _ _ h => h) rfl (fun w hSw => ld_int (.tmp 23) rfl rfl hSw.1.num) hS ?_
  simp only [zA, zB, zC, Act.put, zD, zE, zF]
  refine rg_take 6 (.pointer (some ⟨S + 1, 9, none⟩)) rfl (by kernel_rfl) (by kernel_rfl) (by kernel_rfl) (fun _ _ _ h => h) rfl (fun w _ => ?_) hS ?_
  ·go_simp
  simp only [zA, zB, zC, Act.put, zD, zE, zF]
  refine rg_take 7 (intV t' d') rfl (by kernel_rfl) (by kernel_rfl) (by kernel_rfl) (fun _ _ _ h => h) rfl (fun w hSw => ld_int (.tmp 25) rfl rfl hSw.2.den) hS ?_
  simp only [zA, zB, zC, Act.put, zD, zE, zF]
  refine rg_take 9 (.pointer (some ⟨B, 0, none⟩)) rfl (by kernel_rfl) (by kernel_rfl) (by kernel_rfl) (fun _ _ _ h => h) rfl (fun w _ => ?_) hS ?_
  ·go_simp
  simp only [zA, zB, zC, Act.put, zD, zE, zF]
  refine rg_take 10 (.pointer (some ⟨B, 0, none⟩)) rfl (by kernel_rfl) (by kernel_rfl) (by kernel_rfl) (fun _ _ _ h => h) rfl (fun w _ => ?_) hS ?_
  ·go_simp
  simp only [zA, zB, zC, Act.put, zD, zE, zF]
  refine rg_take 11 (.pointer (some ⟨B, 0, none⟩)) rfl (by kernel_rfl) (by kernel_rfl) (by kernel_rfl) (fun _ _ _ h => h) rfl (fun w _ => ?_) hS ?_
  ·go_simp
  simp only [zA, zB, zC, Act.put, zD, zE, zF]
  refine rg_take 12 (.pointer (some ⟨S, 9, none⟩)) rfl (by kernel_rfl) (by kernel_rfl) (by kernel_rfl) (fun _ _ _ h => h) rfl (fun w _ => ?_) hS ?_
  ·go_simp
  simp only [zA, zB, zC, Act.put, zD, zE, zF]
  refine rg_take 13 (intV t d) rfl (by kernel_rfl) (by kernel_rfl) (by kernel_rfl) (fun _ _ _ h => h) rfl (fun w hSw => ld_int (.tmp 31) rfl rfl hSw.1.den) hS ?_
  simp only [zA, zB, zC, Act.put, zD, zE, zF]
  refine rg_take 14 (.pointer (some ⟨S + 1, 0, none⟩)) rfl (by kernel_rfl) (by kernel_rfl) (by kernel_rfl) (fun _ _ _ h => h) rfl (fun w _ => ?_) hS ?_
  ·go_simp
  simp only [zA, zB, zC, Act.put, zD, zE, zF]
  refine rg_take 15 (intV s' n') rfl (by kernel_rfl) (by kernel_rfl) (by kernel_rfl) (fun _ _ _ h => h) rfl (fun w hSw => ld_int (.tmp 33) rfl rfl hSw.2.num) hS ?_
  simp only [zA, zB, zC, Act.put, zD, zE, zF]
  clear hS
  have hI := HI4.out.drew
  clear HI4
  refine rg_one 8 (by kernel_rfl) (rs_of rfl rfl (wp_call rfl enters_do rfl (HD1.out _ B (Lib.hid hI.er)) (fun w3 hw3 => ⟨⟨(hI.ste hw3).ra, (hI.ste hw3).rb⟩, ?_⟩)))
  have hI5 := hI.ste hw3
  clear hI hw3
  simp only [zA, zB, zC, Act.put, zD, zE, zF]
  refine rg_one 16 (by kernel_rfl) (rs_of rfl rfl (wp_call rfl enters_do rfl (HD2.out _ B (Lib.hid hI5.er)) (fun w4 hw4 => ⟨⟨(hI5.ste hw4).ra, (hI5.ste hw4).rb⟩, ?_⟩)))
  have hI6 := hI5.ste hw4
  clear hI5 hw4
  simp only [zA, zB, zC, Act.put, zD, zE, zF]
  refine rg_one 17 (by kernel_rfl) (rs_of rfl rfl (wp_call rfl enters_ratio rfl (HR.out _ B (Lib.hid hI6.er)) (fun w5 hw5 => ⟨⟨(hI6.below hw5).ra, (hI6.below hw5).rb⟩, ?_⟩)))
  have hI := hI6.below hw5
  have hS := And.intro hI.ra hI.rb
  clear hI6 hw5
  simp only [zA, zB, zC, Act.put, zD, zE, zF]
  refine rg_take 18 (ratV z5 q5 false p5) rfl (by kernel_rfl) (by kernel_rfl) (by kernel_rfl) (fun _ _ _ h => h) rfl (fun w _ => ?_) hS ?_
  ·go_simp
  simp only [zA, zB, zC, Act.put, zD, zE, zF]
  refine rg_take 19 (v5) rfl (by kernel_rfl) (by kernel_rfl) (by kernel_rfl) (fun _ _ _ h => h) rfl (fun w _ => ?_) hS ?_
  ·go_simp
  simp only [zA, zB, zC, Act.put, zD, zE, zF]
  have b5 := st18_but w5 (S + 1 + 1) z5 q5 false p5
  have hS2 := And.intro (hS.1.but b5 (by omega)) (hS.2.but b5 (by omega))
  refine rg_one 20 (by kernel_rfl) ?_
  refine rs_of rfl rfl ?_
  refine stores_rat (.tmp 4) (.tmp 37) rfl (b := S + 1 + 1) (s := z5) (n := q5) (t := false) (d := p5) rfl rfl hI.rz ⟨hS2, ?_⟩
  clear hS
  have hS := hS2
  simp only [zA, zB, zC, Act.put, zD, zE, zF]
  refine rg_take 21 (v5) rfl (by kernel_rfl) (by kernel_rfl) (by kernel_rfl) (fun _ _ _ h => h) rfl (fun w _ => ?_) hS ?_
  ·go_simp
  simp only [zA, zB, zC, Act.put, zD, zE, zF]
  refine wpAnyH_done (by kernel_rfl) ?_ _
  go_wp2_with fail
  refine bodyPost_ret (v := .tuple #[ratV z5 q5 false p5, v5]) (results_rat rfl rfl rfl (st18_at hI.rz)) rfl ⟨rfl, ?_⟩
  exact b5.2.1 S w (by omega) hI.bl
end Go.Proofs.YtgkhjeefcflmcaaGreatDoor
namespace Go.Proofs.YtgkhjeefcflmcaaGreatDoor
open Go.RowKit Go.Sort
def iv (s : Bool) (n : Nat) : Int := if s then -(n : Int) else n
theorem iv_abs (s : Bool) (n : Nat) : (iv s n).natAbs = n := by cases s <;> simp [iv]
theorem sgn_zero (s : Bool) : sgn s 0 = false := by cases s <;> rfl
theorem iv_inj {s t : Bool} {n m : Nat} (hs : sgn s n = s) (ht : sgn t m = t) (h : iv s n = iv t m) : s = t ∧ n = m := by
 have hnm : n = m := by rw [← iv_abs s n, h, iv_abs]
 subst hnm
 refine ⟨?_, rfl⟩
 by_cases hn : n = 0
 ·subst hn; rw [sgn_zero] at hs ht; rw [← hs, ← ht]
 ·unfold iv at h
  cases s <;> cases t <;> simp at h ⊢ <;> omega
theorem chk_zero {s : Bool} {n : Nat} {t : Bool} {d : Nat} : chk s n t d = 0 ↔ vld s n t d = true := by
 unfold chk
 split
 ·next h => simp [h]
 ·next h => simp [h]
def IsLow (X : Int) (Y : Nat) (s : Bool) (n d : Nat) : Prop := vld s n false d = true ∧ ∃ g : Nat, 0 < g ∧ iv s n * g = X ∧ d * g = Y
theorem IsLow.uniq {X : Int} {Y : Nat} {s s0 : Bool} {n d n0 d0 : Nat} (h : IsLow X Y s n d) (h0 : vld s0 n0 false d0 = true) (he : X * d0 = iv s0 n0 * Y) : s = s0 ∧ n = n0 ∧ d = d0 := by
 obtain ⟨hv, g, hg, hX, hY⟩ := h
 obtain ⟨hs, _, hd, hc⟩ := vld_spec hv
 obtain ⟨hs0, _, hd0, hc0⟩ := vld_spec h0
 have e1 : iv s n * d0 = iv s0 n0 * d := by
  rw [← hX, ← hY] at he
  have hgi : (g : Int) ≠ 0 := by omega
  apply Int.eq_of_mul_eq_mul_right hgi
  rw [Int.natCast_mul] at he
  calc iv s n * d0 * g = iv s n * g * d0 := by rw [Int.mul_right_comm]
   _ = iv s0 n0 * (d * g) := he
   _ = iv s0 n0 * d * g := by rw [Int.mul_assoc]
 have e2 : n * d0 = n0 * d := by
  have := congrArg Int.natAbs e1
  simpa [Int.natAbs_mul, iv_abs] using this
 have c1 : Nat.Coprime d n := by rw [Nat.coprime_comm]; exact hc
 have c2 : Nat.Coprime d0 n0 := by rw [Nat.coprime_comm]; exact hc0
 have d1 : d ∣ d0 := c1.dvd_of_dvd_mul_left (e2 ▸ Nat.dvd_mul_left d n0)
 have d2 : d0 ∣ d := c2.dvd_of_dvd_mul_left (e2 ▸ Nat.dvd_mul_left d0 n)
 have hdd : d = d0 := Nat.dvd_antisymm d1 d2
 subst hdd
 have hnn : n = n0 := Nat.eq_of_mul_eq_mul_right hd e2
 subst hnn
 have hdi : (d : Int) ≠ 0 := by omega
 have e3 := Int.eq_of_mul_eq_mul_right hdi e1
 exact ⟨(iv_inj hs hs0 e3).1, rfl, rfl⟩
def oS (k : Nat) (z : Bool) (r j : Nat) (z' : Bool) (r' j' : Nat) : Bool := rtS (kept (kept k j) j') (doS k z) (doN k r) (doS (kept k j) z') (doN (kept k j) r')
def oN (k r j r' j' : Nat) : Nat := rtN (kept (kept k j) j') (doN k r) (doN (kept k j) r')
def oD (k r j r' j' : Nat) : Nat := rtD (kept (kept k j) j') (doN k r) (doN (kept k j) r')
def oK (k j r' j' : Nat) : Nat := rtK (kept (kept k j) j') (doN (kept k j) r')
theorem opV_parts (k : Nat) (z : Bool) (r j : Nat) (z' : Bool) (r' j' : Nat) : opV k z r j z' r' j' = .tuple #[ratV (oS k z r j z' r' j') (oN k r j r' j') false (oD k r j r' j'), errV (oK k j r' j')] := rfl
theorem rtN_fits (k : Nat) {n m : Nat} (h : Fits n) : Fits (rtN k n m) := by
 unfold rtN mkN
 split
 ·split
  ·exact Nat.pow_pos (by decide)
  ·exact Nat.lt_of_le_of_lt (Nat.div_le_self _ _) h
 ·exact Nat.pow_pos (by decide)
theorem rtD_fits (k : Nat) {n m : Nat} (h : Fits m) : Fits (rtD k n m) := by
 unfold rtD mkD
 split
 ·split
  ·exact Nat.pow_pos (by decide)
  ·exact Nat.lt_of_le_of_lt (Nat.div_le_self _ _) h
 ·exact Nat.pow_pos (by decide)
theorem oN_fits (k : Nat) {r : Nat} (j r' j' : Nat) (h : Fits r) : Fits (oN k r j r' j') := rtN_fits _ (doN_fits _ h)
theorem oD_fits (k r j : Nat) {r' : Nat} (j' : Nat) (h : Fits r') : Fits (oD k r j r' j') := rtD_fits _ (doN_fits _ h)
end Go.Proofs.YtgkhjeefcflmcaaGreatDoor
namespace Go.Proofs.YtgkhjeefcflmcaaGreatDoor
open Go.RowKit Go.Sort
set_option linter.unusedSimpArgs false
section
variable (s : Bool) (n : Nat) (t : Bool) (d : Nat) (s' : Bool) (n' : Nat) (t' : Bool) (d' : Nat)
def k0 : Nat := kept (chk s n t d) (chk s' n' t' d')
def muS : Bool := oS (k0 s n t d s' n' t' d') (resS (s != s') (n * n')) (resN (n * n')) (resK (n * n')) (resS (t != t') (d * d')) (resN (d * d')) (resK (d * d'))
def muN : Nat := oN (k0 s n t d s' n' t' d') (resN (n * n')) (resK (n * n')) (resN (d * d')) (resK (d * d'))
def muD : Nat := oD (k0 s n t d s' n' t' d') (resN (n * n')) (resK (n * n')) (resN (d * d')) (resK (d * d'))
def muK : Nat := oK (k0 s n t d s' n' t' d') (resK (n * n')) (resN (d * d')) (resK (d * d'))
theorem mulV_eq : mulV s n t d s' n' t' d' = .tuple #[ratV (muS s n t d s' n' t' d') (muN s n t d s' n' t' d') false (muD s n t d s' n' t' d'), errV (muK s n t d s' n' t' d')] := by
 unfold mulV muS muN muD muK k0
 exact opV_parts _ _ _ _ _ _ _
def quS : Bool := oS (kept (k0 s n t d s' n' t' d') (if n' = 0 then 10 else 0)) (resS (s != t') (n * d')) (resN (n * d')) (resK (n * d')) (resS (t != s') (d * n')) (resN (d * n')) (resK (d * n'))
def quN : Nat := oN (kept (k0 s n t d s' n' t' d') (if n' = 0 then 10 else 0)) (resN (n * d')) (resK (n * d')) (resN (d * n')) (resK (d * n'))
def quD : Nat := oD (kept (k0 s n t d s' n' t' d') (if n' = 0 then 10 else 0)) (resN (n * d')) (resK (n * d')) (resN (d * n')) (resK (d * n'))
def quK : Nat := oK (kept (k0 s n t d s' n' t' d') (if n' = 0 then 10 else 0)) (resK (n * d')) (resN (d * n')) (resK (d * n'))
theorem quoV_eq : quoV s n t d s' n' t' d' = .tuple #[ratV (quS s n t d s' n' t' d') (quN s n t d s' n' t' d') false (quD s n t d s' n' t' d'), errV (quK s n t d s' n' t' d')] := by
 unfold quoV quS quN quD quK k0
 exact opV_parts _ _ _ _ _ _ _
theorem mu_fits : Fits (muN s n t d s' n' t' d') ∧ Fits (muD s n t d s' n' t' d') := ⟨oN_fits _ _ _ _ (resN_fits _), oD_fits _ _ _ _ (resN_fits _)⟩
theorem qu_fits : Fits (quN s n t d s' n' t' d') ∧ Fits (quD s n t d s' n' t' d') := ⟨oN_fits _ _ _ _ (resN_fits _), oD_fits _ _ _ _ (resN_fits _)⟩
end
section
variable {s : Bool} {n : Nat} {t : Bool} {d : Nat} {s' : Bool} {n' : Nat} {t' : Bool} {d' : Nat}
end
end Go.Proofs.YtgkhjeefcflmcaaGreatDoor
namespace Go.Proofs.YtgkhjeefcflmcaaGreatDoor
open Go.RowKit Go.Sort
set_option linter.unusedSimpArgs false
theorem build_words {a : Act} {w : World} {op : Oper} {x : Operand} (ho : op.op = .build 92 #[(1, x)]) {n : Nat} (hx : a.eval x = wordsV n) : (execOp a.eval op).run Tryz.prog w = .ok (.value (intV false n)) w := by
 have hrun : (Instr.build 92 #[(1, wordsV n)]).run Tryz.prog w = .ok (intV false n) w := by
  unfold intV wordsV
  go_simp
 unfold execOp
 simp only [ho, List.map_toArray, List.map_cons, List.map_nil, hx, hrun, Sem.run_bind, Sem.run_pure, Result.andThen_ok]
theorem wpList_val {ops : Array Oper} {rest : List Oper} {op : Oper} {a : Act} {w : World} {Q : Exit → Act → World → Prop} (hw : Region.wanted op (yielded ops a.tmps) = true) {v : Value} (hv : (execOp a.eval op).run Tryz.prog w = .ok (.value v) w)
  (hK : wpList Tryz.prog ops Q rest (a.put op.dst v) w) : wpList Tryz.prog ops Q (op :: rest) a w := by
 refine wpList_step fun K hK' => ?_
 rw [if_pos hw]
 unfold Oper.wp
 rw [hv]
 exact hK' _ _ hK
end Go.Proofs.YtgkhjeefcflmcaaGreatDoor
namespace Go.Proofs.YtgkhjeefcflmcaaGreatDoor
open Go.RowKit Go.Sort
set_option linter.unusedSimpArgs false
theorem build_zeroN {a : Act} {w : World} {op : Oper} (ho : op.op = .build 92 #[]) : (execOp a.eval op).run Tryz.prog w = .ok (.value (intV false 0)) w := by
 have e : intV false 0 = .agg #[.bool false, .int .u64 0, .int .u64 0, .int .u64 0, .int .u64 0, .int .u64 0, .int .u64 0, .int .u64 0, .int .u64 0] := by simp [intV, wd_zero]
 rw [e]
 unfold execOp
 simp only [ho]
 go_simp
theorem ld_wordsB {op : Oper} {a : Act} {w : World} (x : Operand) (ho : op.op = .load 217 x) {b n : Nat} (hx : a.eval x = .pointer (some ⟨b, 0, none⟩)) (h : WordsAt w b 0 n 8) : (execOp a.eval op).run Tryz.prog w = .ok (.value (wordsV n)) w := by
 obtain ⟨⟨g0, f0⟩, ⟨g1, f1⟩, ⟨g2, f2⟩, ⟨g3, f3⟩, ⟨g4, f4⟩, ⟨g5, f5⟩, ⟨g6, f6⟩, ⟨g7, f7⟩⟩ := h.eight
 have hl : (loadVar 217 ⟨b, 0, none⟩).run Tryz.prog w = .ok (wordsV n) w := by
  refine run_loadVar_mid w b 0 217 [.int .u64 (wd n 0 : Int), .int .u64 (wd n 1 : Int), .int .u64 (wd n 2 : Int), .int .u64 (wd n 3 : Int), .int .u64 (wd n 4 : Int), .int .u64 (wd n 5 : Int), .int .u64 (wd n 6 : Int), .int .u64 (wd n 7 : Int)] (.array 8 89) ?_ (by kernel_rfl) rfl (by kernel_rfl)
  intro j v hv
  rcases j with _ | _ | _ | _ | _ | _ | _ | _ | j
  ·exact g0.trans hv
  ·exact g1.trans hv
  ·exact g2.trans hv
  ·exact g3.trans hv
  ·exact g4.trans hv
  ·exact g5.trans hv
  ·exact g6.trans hv
  ·exact g7.trans hv
  ·simp at hv
 unfold execOp
 simp only [ho, hx, Instr.loadAt, Instr.sureAddr, Sem.run_bind, Sem.run_pure, Result.andThen_ok, hl]
theorem byts_get {w : World} {B b : Nat} {s : ByteArray} (h : Byts w B (some ⟨b, 0, none⟩) (bts s)) {i : Nat} {c : UInt8} (hc : s.data.toList[i]? = some c) : w.cell? ⟨b, i, none⟩ = some (.int .u8 (c.toNat : Int)) := by
 have hi : i < s.size := by simpa using (List.getElem?_eq_some_iff.1 hc).1
 obtain ⟨b', o', e, _, hx⟩ := h.2 (by rw [bts_length]; omega)
 cases e
 have := hx i (c.toNat : Int) (by unfold bts; rw [List.getElem?_map, hc]; rfl)
 rwa [Nat.zero_add] at this
theorem get_of_lt {s : ByteArray} {i : Nat} (h : i < s.size) : ∃ c, s.data.toList[i]? = some c := ⟨s.data.toList[i]'(by simpa using h), List.getElem?_eq_getElem _⟩
theorem not_nil_of {s : ByteArray} (h : s.size ≠ 0) : s.data.toList ≠ [] := by
 intro e
 have := congrArg List.length e
 simp at this
 exact h (by rw [this]; rfl)
theorem take_all (s : ByteArray) : s.data.toList.take s.size = s.data.toList := List.take_of_length_le (by simp)
end Go.Proofs.YtgkhjeefcflmcaaGreatDoor
