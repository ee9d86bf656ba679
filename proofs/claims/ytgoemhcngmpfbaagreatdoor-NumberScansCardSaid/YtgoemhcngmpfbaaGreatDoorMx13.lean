/-
  Stage 8: ratio's Mul.
-/
import Derived.Test.YtgoemhcngmpfbaaGreatDoorMx11
import Derived.Test.YtgoemhcngmpfbaaGreatDoorMx12
namespace Go.Proofs.YtgoemhcngmpfbaaGreatDoor
open Go.RowKit Go.Sort
set_option linter.unusedSimpArgs false
def mulV (s : Bool) (n : Nat) (t : Bool) (d : Nat) (s' : Bool) (n' : Nat) (t' : Bool) (d' : Nat) : Value :=
 opV (kept (chk s n t d) (chk s' n' t' d')) (resS (s != s') (n * n')) (resN (n * n')) (resK (n * n')) (resS (t != t') (d * d')) (resN (d * d')) (resK (d * d'))
def quoV (s : Bool) (n : Nat) (t : Bool) (d : Nat) (s' : Bool) (n' : Nat) (t' : Bool) (d' : Nat) : Value :=
 opV (kept (kept (chk s n t d) (chk s' n' t' d')) (if n' = 0 then 10 else 0)) (resS (s != t') (n * d')) (resN (n * d')) (resK (n * d')) (resS (t != s') (d * n')) (resN (d * n')) (resK (d * n'))
set_option maxRecDepth 100000 in
set_option maxHeartbeats 4000000 in
theorem RMul_run (s : Bool) (n : Nat) (t : Bool) (d : Nat) (s' : Bool) (n' : Nat) (t' : Bool) (d' : Nat) (w : World) (hn : Hid (Fits n)) (hd : Hid (Fits d)) (hn' : Hid (Fits n')) (hd' : Hid (Fits d')) :
  Calls Tryz.prog 110 #[ratV s n t d, ratV s' n' t' d'] w fun e w' => e = .returned (mulV s n t d s' n' t' d') ∧ Below w.heap.size w w' := by
 obtain ⟨S, hS⟩ : ∃ S, w.heap.size = S := ⟨_, rfl⟩
 obtain ⟨W, hW⟩ : ∃ W, ((w.alloc (boxR s n t d 27)).alloc (boxR s' n' t' d' 27)).alloc (boxRZ 27) = W := ⟨_, rfl⟩
 have T := op_boxes w s n t d s' n' t' d' 27
 rw [hW, hS] at T
 rw [hS]
 have HT := Lib.hid T
 have hWs := Lib.hid T.2.2.2.2
 clear T
 have HBG := Lib.hid (fun W => begin_run s n t d s' n' t' d' W hn hd hn' hd')
 unfold mulV
 generalize kept (chk s n t d) (chk s' n' t' d') = k0 at *
 have HD1 : Hid (∀ W B, Hid (ErrAt W B k0) → Calls Tryz.prog 39 #[.pointer (some ⟨B, 0, none⟩), fnV 93, intV s n, intV s' n'] W fun e w' => e = .returned (intV (doS k0 (resS (s != s') (n * n'))) (doN k0 (resN (n * n')))) ∧ Ste W w' B (kept k0 (resK (n * n')))) := fun W B h => do_mul B k0 s n s' n' W h hn hn'
 have hf3 : Hid (Fits (doN k0 (resN (n * n')))) := doN_fits _ (resN_fits _)
 unfold opV
 generalize resK (n * n') = j3 at *
 generalize doS k0 (resS (s != s') (n * n')) = z3 at *
 generalize doN k0 (resN (n * n')) = r3 at *
 have HD2 : Hid (∀ W B, Hid (ErrAt W B (kept k0 j3)) → Calls Tryz.prog 39 #[.pointer (some ⟨B, 0, none⟩), fnV 93, intV t d, intV t' d'] W fun e w' => e = .returned (intV (doS (kept k0 j3) (resS (t != t') (d * d'))) (doN (kept k0 j3) (resN (d * d')))) ∧ Ste W w' B (kept (kept k0 j3) (resK (d * d')))) := fun W B h => do_mul B (kept k0 j3) t d t' d' W h hd hd'
 have hf4 : Hid (Fits (doN (kept k0 j3) (resN (d * d')))) := doN_fits _ (resN_fits _)
 generalize resK (d * d') = j4 at *
 generalize doS (kept k0 j3) (resS (t != t') (d * d')) = z4 at *
 generalize doN (kept k0 j3) (resN (d * d')) = r4 at *
 have HR := Lib.hid (fun W B (h : Hid (ErrAt W B (kept (kept k0 j3) j4))) => ratio_run B (kept (kept k0 j3) j4) z3 r3 z4 r4 W h hf3 hf4)
 generalize rtS (kept (kept k0 j3) j4) z3 r3 z4 r4 = z5 at *
 generalize rtN (kept (kept k0 j3) j4) r3 r4 = q5 at *
 generalize rtD (kept (kept k0 j3) j4) r3 r4 = p5 at *
 generalize errV (rtK (kept (kept k0 j3) j4) r4) = v5 at *
 clear hn hd hn' hd'
 go_enter Tryz.func110, Tryz.ntmps110
 go_wp2_with (first | (refine wpList_box_rat rfl (.tmp 0) rfl rfl ?_) | (refine wpList_box_rat rfl (.tmp 1) rfl rfl ?_) | (refine wpList_load_rat rfl (.tmp 2) rfl rfl HT.out.1 ?_) | (refine wpList_load_rat rfl (.tmp 3) rfl rfl HT.out.2.1 ?_))
 refine (HBG.out _).mono ?_
 rintro e w1 ⟨B, rfl, hB, hP, hw1⟩
 have hI1 : OpInv w w1 S B k0 s n t d s' n' t' d' := by
  have hz := hWs.out
  exact ⟨HT.out.1.keep hw1 (by omega), HT.out.2.1.keep hw1 (by omega), HT.out.2.2.1.keep hw1 (by omega), hP.err, HT.out.2.2.2.1.trans (hw1.mono (by omega)), by omega, hP.err.lt⟩
 have hSB := hI1.hB
 have HI4 := Lib.hid hI1
 clear hI1 hP hw1 hB hW HT hWs HBG
 go_wp2_with fail
 refine rg_begin (fun W' => RatAt W' S s n t d ∧ RatAt W' (S + 1) s' n' t' d') (by kernel_rfl) ⟨HI4.out.ra.drew, HI4.out.rb.drew⟩ (fun hS => ?_)
 refine rg_take 0 (.pointer (some ⟨B, 0, none⟩)) rfl (by kernel_rfl) (by kernel_rfl) (by kernel_rfl) (fun _ _ _ h => h) rfl (fun w _ => ?_) hS ?_
 ·go_simp
 simp only [zA, zB, zC, Act.put, zD, zE, zF]
 refine rg_take 1 (.pointer (some ⟨B, 0, none⟩)) rfl (by kernel_rfl) (by kernel_rfl) (by kernel_rfl) (fun _ _ _ h => h) rfl (fun w _ => ?_) hS ?_
 ·go_simp
 simp only [zA, zB, zC, Act.put, zD, zE, zF]
 refine rg_take 2 (.pointer (some ⟨B, 0, none⟩)) rfl (by kernel_rfl) (by kernel_rfl) (by kernel_rfl) (fun _ _ _ h => h) rfl (fun w _ => ?_) hS ?_
 ·go_simp
 simp only [zA, zB, zC, Act.put, zD, zE, zF]
 refine rg_take 3 (.pointer (some ⟨B, 0, none⟩)) rfl (by kernel_rfl) (by kernel_rfl) (by kernel_rfl) (fun _ _ _ h => h) rfl (fun w _ => ?_) hS ?_
 ·go_simp
 simp only [zA, zB, zC, Act.put, zD, zE, zF]
 refine rg_take 4 (.pointer (some ⟨S, 0, none⟩)) rfl (by kernel_rfl) (by kernel_rfl) (by kernel_rfl) (fun _ _ _ h => h) rfl (fun w _ => ?_) hS ?_
 ·go_simp
 simp only [zA, zB, zC, Act.put, zD, zE, zF]
 refine rg_take 5 (intV s n) rfl (by kernel_rfl) (by kernel_rfl) (by kernel_rfl) (fun _ _ _ h => h) rfl (fun w hSw => ld_int (.tmp 14) rfl rfl hSw.1.num) hS ?_
 simp only [zA, zB, zC, Act.put, zD, zE, zF]
 refine rg_take 6 (.pointer (some ⟨S + 1, 0, none⟩)) rfl (by kernel_rfl) (by kernel_rfl) (by kernel_rfl) (fun _ _ _ h => h) rfl (fun w _ => ?_) hS ?_
 ·go_simp
 simp only [zA, zB, zC, Act.put, zD, zE, zF]
 refine rg_take 7 (intV s' n') rfl (by kernel_rfl) (by kernel_rfl) (by kernel_rfl) (fun _ _ _ h => h) rfl (fun w hSw => ld_int (.tmp 16) rfl rfl hSw.2.num) hS ?_
 simp only [zA, zB, zC, Act.put, zD, zE, zF]
 refine rg_take 9 (.pointer (some ⟨B, 0, none⟩)) rfl (by kernel_rfl) (by kernel_rfl) (by kernel_rfl) (fun _ _ _ h => h) rfl (fun w _ => ?_) hS ?_
 ·go_simp
 simp only [zA, zB, zC, Act.put, zD, zE, zF]
 refine rg_take 10 (.pointer (some ⟨B, 0, none⟩)) rfl (by kernel_rfl) (by kernel_rfl) (by kernel_rfl) (fun _ _ _ h => h) rfl (fun w _ => ?_) hS ?_
 ·go_simp
 simp only [zA, zB, zC, Act.put, zD, zE, zF]
 refine rg_take 11 (.pointer (some ⟨B, 0, none⟩)) rfl (by kernel_rfl) (by kernel_rfl) (by kernel_rfl) (fun _ _ _ h => h) rfl (fun w _ => ?_) hS ?_
 ·go_simp
 simp only [zA, zB, zC, Act.put, zD, zE, zF]
 refine rg_take 12 (.pointer (some ⟨S, 9, none⟩)) rfl (by kernel_rfl) (by kernel_rfl) (by kernel_rfl) (fun _ _ _ h => h) rfl (fun w _ => ?_) hS ?_
 ·go_simp
 simp only [zA, zB, zC, Act.put, zD, zE, zF]
 refine rg_take 13 (intV t d) rfl (by kernel_rfl) (by kernel_rfl) (by kernel_rfl) (fun _ _ _ h => h) rfl (fun w hSw => ld_int (.tmp 22) rfl rfl hSw.1.den) hS ?_
 simp only [zA, zB, zC, Act.put, zD, zE, zF]
 refine rg_take 14 (.pointer (some ⟨S + 1, 9, none⟩)) rfl (by kernel_rfl) (by kernel_rfl) (by kernel_rfl) (fun _ _ _ h => h) rfl (fun w _ => ?_) hS ?_
 ·go_simp
 simp only [zA, zB, zC, Act.put, zD, zE, zF]
 refine rg_take 15 (intV t' d') rfl (by kernel_rfl) (by kernel_rfl) (by kernel_rfl) (fun _ _ _ h => h) rfl (fun w hSw => ld_int (.tmp 24) rfl rfl hSw.2.den) hS ?_
 simp only [zA, zB, zC, Act.put, zD, zE, zF]
 clear hS
 have hI := HI4.out.drew
 clear HI4
 refine rg_one 8 (by kernel_rfl) (rs_of rfl rfl (wp_call rfl enters_do rfl (HD1.out _ B (Lib.hid hI.er)) (fun w3 hw3 => ⟨⟨(hI.ste hw3).ra, (hI.ste hw3).rb⟩, ?_⟩)))
 have hI5 := hI.ste hw3
 clear hI hw3
 simp only [zA, zB, zC, Act.put, zD, zE, zF]
 refine rg_one 16 (by kernel_rfl) (rs_of rfl rfl (wp_call rfl enters_do rfl (HD2.out _ B (Lib.hid hI5.er)) (fun w4 hw4 => ⟨⟨(hI5.ste hw4).ra, (hI5.ste hw4).rb⟩, ?_⟩)))
 have hI6 := hI5.ste hw4
 clear hI5 hw4
 simp only [zA, zB, zC, Act.put, zD, zE, zF]
 refine rg_one 17 (by kernel_rfl) (rs_of rfl rfl (wp_call rfl enters_ratio rfl (HR.out _ B (Lib.hid hI6.er)) (fun w5 hw5 => ⟨⟨(hI6.below hw5).ra, (hI6.below hw5).rb⟩, ?_⟩)))
 have hI := hI6.below hw5
 have hS := And.intro hI.ra hI.rb
 clear hI6 hw5
 simp only [zA, zB, zC, Act.put, zD, zE, zF]
 refine rg_take 18 (ratV z5 q5 false p5) rfl (by kernel_rfl) (by kernel_rfl) (by kernel_rfl) (fun _ _ _ h => h) rfl (fun w _ => ?_) hS ?_
 ·go_simp
 simp only [zA, zB, zC, Act.put, zD, zE, zF]
 refine rg_take 19 (v5) rfl (by kernel_rfl) (by kernel_rfl) (by kernel_rfl) (fun _ _ _ h => h) rfl (fun w _ => ?_) hS ?_
 ·go_simp
 simp only [zA, zB, zC, Act.put, zD, zE, zF]
 have b5 := st18_but w5 (S + 1 + 1) z5 q5 false p5
 have hS2 := And.intro (hS.1.but b5 (by omega)) (hS.2.but b5 (by omega))
 refine rg_one 20 (by kernel_rfl) ?_
 refine rs_of rfl rfl ?_
 refine stores_rat (.tmp 4) (.tmp 28) rfl (b := S + 1 + 1) (s := z5) (n := q5) (t := false) (d := p5) rfl rfl hI.rz ⟨hS2, ?_⟩
 clear hS
 have hS := hS2
 simp only [zA, zB, zC, Act.put, zD, zE, zF]
 refine rg_take 21 (v5) rfl (by kernel_rfl) (by kernel_rfl) (by kernel_rfl) (fun _ _ _ h => h) rfl (fun w _ => ?_) hS ?_
 ·go_simp
 simp only [zA, zB, zC, Act.put, zD, zE, zF]
 refine wpAnyH_done (by kernel_rfl) ?_ _
 go_wp2_with fail
 refine bodyPost_ret (v := .tuple #[ratV z5 q5 false p5, v5]) (results_rat rfl rfl rfl (st18_at hI.rz)) rfl ⟨rfl, ?_⟩
 exact b5.2.1 S w (by omega) hI.bl
end Go.Proofs.YtgoemhcngmpfbaaGreatDoor
namespace Go.Proofs.YtgoemhcngmpfbaaGreatDoor
open Go.RowKit Go.Sort
set_option linter.unusedSimpArgs false
set_option maxRecDepth 100000 in
set_option maxHeartbeats 4000000 in
theorem RQuo_run (s : Bool) (n : Nat) (t : Bool) (d : Nat) (s' : Bool) (n' : Nat) (t' : Bool) (d' : Nat) (w : World) (hn : Hid (Fits n)) (hd : Hid (Fits d)) (hn' : Hid (Fits n')) (hd' : Hid (Fits d')) :
  Calls Tryz.prog 111 #[ratV s n t d, ratV s' n' t' d'] w fun e w' => e = .returned (quoV s n t d s' n' t' d') ∧ Below w.heap.size w w' := by
 obtain ⟨S, hS⟩ : ∃ S, w.heap.size = S := ⟨_, rfl⟩
 obtain ⟨W, hW⟩ : ∃ W, ((w.alloc (boxR s n t d 27)).alloc (boxR s' n' t' d' 27)).alloc (boxRZ 27) = W := ⟨_, rfl⟩
 have T := op_boxes w s n t d s' n' t' d' 27
 rw [hW, hS] at T
 rw [hS]
 have HT := Lib.hid T
 have hWs := Lib.hid T.2.2.2.2
 clear T
 have HBG := Lib.hid (fun W => begin_run s n t d s' n' t' d' W hn hd hn' hd')
 unfold quoV
 generalize kept (chk s n t d) (chk s' n' t' d') = k0 at *
 have HSG := Lib.hid (fun W => sign_run s' n' _ W hn' (Lib.hid rfl))
 have hkk : Hid (∃ k1, kept k0 (if n' = 0 then 10 else 0) = k1) := ⟨_, rfl⟩
 obtain ⟨k1, hk1⟩ := hkk.out
 rw [hk1]
 have HD1 : Hid (∀ W B, Hid (ErrAt W B k1) → Calls Tryz.prog 39 #[.pointer (some ⟨B, 0, none⟩), fnV 93, intV s n, intV t' d'] W fun e w' => e = .returned (intV (doS k1 (resS (s != t') (n * d'))) (doN k1 (resN (n * d')))) ∧ Ste W w' B (kept k1 (resK (n * d')))) := fun W B h => do_mul B k1 s n t' d' W h hn hd'
 have hf3 : Hid (Fits (doN k1 (resN (n * d')))) := doN_fits _ (resN_fits _)
 unfold opV
 generalize resK (n * d') = j3 at *
 generalize doS k1 (resS (s != t') (n * d')) = z3 at *
 generalize doN k1 (resN (n * d')) = r3 at *
 have HD2 : Hid (∀ W B, Hid (ErrAt W B (kept k1 j3)) → Calls Tryz.prog 39 #[.pointer (some ⟨B, 0, none⟩), fnV 93, intV t d, intV s' n'] W fun e w' => e = .returned (intV (doS (kept k1 j3) (resS (t != s') (d * n'))) (doN (kept k1 j3) (resN (d * n')))) ∧ Ste W w' B (kept (kept k1 j3) (resK (d * n')))) := fun W B h => do_mul B (kept k1 j3) t d s' n' W h hd hn'
 have hf4 : Hid (Fits (doN (kept k1 j3) (resN (d * n')))) := doN_fits _ (resN_fits _)
 generalize resK (d * n') = j4 at *
 generalize doS (kept k1 j3) (resS (t != s') (d * n')) = z4 at *
 generalize doN (kept k1 j3) (resN (d * n')) = r4 at *
 have HR := Lib.hid (fun W B (h : Hid (ErrAt W B (kept (kept k1 j3) j4))) => ratio_run B (kept (kept k1 j3) j4) z3 r3 z4 r4 W h hf3 hf4)
 generalize rtS (kept (kept k1 j3) j4) z3 r3 z4 r4 = z5 at *
 generalize rtN (kept (kept k1 j3) j4) r3 r4 = q5 at *
 generalize rtD (kept (kept k1 j3) j4) r3 r4 = p5 at *
 generalize errV (rtK (kept (kept k1 j3) j4) r4) = v5 at *
 clear hn hd hn' hd' hkk
 by_cases h0 : n' = 0
 ·have hsg : sgZ s' n' = 0 := if_pos h0
  rw [hsg] at HSG
  rw [if_pos h0] at hk1
  have HKP := fun W B h => Lib.hid (keep_run B k0 10 W h)
  rw [hk1, errV_pos (show (10 : Nat) ≠ 0 by decide)] at HKP
  have HKP := Lib.hid HKP
  clear hsg hk1 h0
  go_enter Tryz.func111, Tryz.ntmps111
  go_wp2_with (first | (refine wpList_box_rat rfl (.tmp 0) rfl rfl ?_) | (refine wpList_box_rat rfl (.tmp 1) rfl rfl ?_) | (refine wpList_load_rat rfl (.tmp 2) rfl rfl HT.out.1 ?_) | (refine wpList_load_rat rfl (.tmp 3) rfl rfl HT.out.2.1 ?_))
  refine (HBG.out _).mono ?_
  rintro e w1 ⟨B, rfl, hB, hP, hw1⟩
  have hI1 : OpInv w w1 S B k0 s n t d s' n' t' d' := by
   have hz := hWs.out
   exact ⟨HT.out.1.keep hw1 (by omega), HT.out.2.1.keep hw1 (by omega), HT.out.2.2.1.keep hw1 (by omega), hP.err, HT.out.2.2.2.1.trans (hw1.mono (by omega)), by omega, hP.err.lt⟩
  have hSB := hI1.hB
  have HI1 := Lib.hid hI1
  clear hI1 hP hw1 hB hW HT hWs HBG
  go_wp2_with (refine wpList_load_int rfl (.tmp 10) rfl rfl HI1.out.rb.num ?_)
  refine (HSG.out _).mono ?_
  rintro e w2 ⟨rfl, hw2⟩
  have HI2 := Lib.hid (HI1.out.below hw2)
  clear hw2 HI1 HSG
  go_wp2_with fail
  refine (HKP _ B (Lib.hid HI2.out.er)).out.mono ?_
  rintro e w2' ⟨rfl, hw2⟩
  have HI4 := Lib.hid (HI2.out.ste hw2)
  clear hw2 HI2 HKP
  go_wp2_with fail
  refine rg_begin (fun W' => RatAt W' S s n t d ∧ RatAt W' (S + 1) s' n' t' d') (by kernel_rfl) ⟨HI4.out.ra.drew, HI4.out.rb.drew⟩ (fun hS => ?_)
  refine rg_take 0 (.pointer (some ⟨B, 0, none⟩)) rfl (by kernel_rfl) (by kernel_rfl) (by kernel_rfl) (fun _ _ _ h => h) rfl (fun w _ => ?_) hS ?_
  ·go_simp
  simp only [zA, zB, zC, Act.put, zD, zE, zF]
  refine rg_take 1 (.pointer (some ⟨B, 0, none⟩)) rfl (by kernel_rfl) (by kernel_rfl) (by kernel_rfl) (fun _ _ _ h => h) rfl (fun w _ => ?_) hS ?_
  ·go_simp
  simp only [zA, zB, zC, Act.put, zD, zE, zF]
  refine rg_take 2 (.pointer (some ⟨B, 0, none⟩)) rfl (by kernel_rfl) (by kernel_rfl) (by kernel_rfl) (fun _ _ _ h => h) rfl (fun w _ => ?_) hS ?_
  ·go_simp
  simp only [zA, zB, zC, Act.put, zD, zE, zF]
  refine rg_take 3 (.pointer (some ⟨B, 0, none⟩)) rfl (by kernel_rfl) (by kernel_rfl) (by kernel_rfl) (fun _ _ _ h => h) rfl (fun w _ => ?_) hS ?_
  ·go_simp
  simp only [zA, zB, zC, Act.put, zD, zE, zF]
  refine rg_take 4 (.pointer (some ⟨S, 0, none⟩)) rfl (by kernel_rfl) (by kernel_rfl) (by kernel_rfl) (fun _ _ _ h => h) rfl (fun w _ => ?_) hS ?_
  ·go_simp
  simp only [zA, zB, zC, Act.put, zD, zE, zF]
  refine rg_take 5 (intV s n) rfl (by kernel_rfl) (by kernel_rfl) (by kernel_rfl) (fun _ _ _ h => h) rfl (fun w hSw => ld_int (.tmp 23) rfl rfl hSw.1.num) hS ?_
  simp only [zA, zB, zC, Act.put, zD, zE, zF]
  refine rg_take 6 (.pointer (some ⟨S + 1, 9, none⟩)) rfl (by kernel_rfl) (by kernel_rfl) (by kernel_rfl) (fun _ _ _ h => h) rfl (fun w _ => ?_) hS ?_
  ·go_simp
  simp only [zA, zB, zC, Act.put, zD, zE, zF]
  refine rg_take 7 (intV t' d') rfl (by kernel_rfl) (by kernel_rfl) (by kernel_rfl) (fun _ _ _ h => h) rfl (fun w hSw => ld_int (.tmp 25) rfl rfl hSw.2.den) hS ?_
  simp only [zA, zB, zC, Act.put, zD, zE, zF]
  refine rg_take 9 (.pointer (some ⟨B, 0, none⟩)) rfl (by kernel_rfl) (by kernel_rfl) (by kernel_rfl) (fun _ _ _ h => h) rfl (fun w _ => ?_) hS ?_
  ·go_simp
  simp only [zA, zB, zC, Act.put, zD, zE, zF]
  refine rg_take 10 (.pointer (some ⟨B, 0, none⟩)) rfl (by kernel_rfl) (by kernel_rfl) (by kernel_rfl) (fun _ _ _ h => h) rfl (fun w _ => ?_) hS ?_
  ·go_simp
  simp only [zA, zB, zC, Act.put, zD, zE, zF]
  refine rg_take 11 (.pointer (some ⟨B, 0, none⟩)) rfl (by kernel_rfl) (by kernel_rfl) (by kernel_rfl) (fun _ _ _ h => h) rfl (fun w _ => ?_) hS ?_
  ·go_simp
  simp only [zA, zB, zC, Act.put, zD, zE, zF]
  refine rg_take 12 (.pointer (some ⟨S, 9, none⟩)) rfl (by kernel_rfl) (by kernel_rfl) (by kernel_rfl) (fun _ _ _ h => h) rfl (fun w _ => ?_) hS ?_
  ·go_simp
  simp only [zA, zB, zC, Act.put, zD, zE, zF]
  refine rg_take 13 (intV t d) rfl (by kernel_rfl) (by kernel_rfl) (by kernel_rfl) (fun _ _ _ h => h) rfl (fun w hSw => ld_int (.tmp 31) rfl rfl hSw.1.den) hS ?_
  simp only [zA, zB, zC, Act.put, zD, zE, zF]
  refine rg_take 14 (.pointer (some ⟨S + 1, 0, none⟩)) rfl (by kernel_rfl) (by kernel_rfl) (by kernel_rfl) (fun _ _ _ h => h) rfl (fun w _ => ?_) hS ?_
  ·go_simp
  simp only [zA, zB, zC, Act.put, zD, zE, zF]
  refine rg_take 15 (intV s' n') rfl (by kernel_rfl) (by kernel_rfl) (by kernel_rfl) (fun _ _ _ h => h) rfl (fun w hSw => ld_int (.tmp 33) rfl rfl hSw.2.num) hS ?_
  simp only [zA, zB, zC, Act.put, zD, zE, zF]
  clear hS
  have hI := HI4.out.drew
  clear HI4
  refine rg_one 8 (by kernel_rfl) (rs_of rfl rfl (wp_call rfl enters_do rfl (HD1.out _ B (Lib.hid hI.er)) (fun w3 hw3 => ⟨⟨(hI.ste hw3).ra, (hI.ste hw3).rb⟩, ?_⟩)))
  have hI5 := hI.ste hw3
  clear hI hw3
  simp only [zA, zB, zC, Act.put, zD, zE, zF]
  refine rg_one 16 (by kernel_rfl) (rs_of rfl rfl (wp_call rfl enters_do rfl (HD2.out _ B (Lib.hid hI5.er)) (fun w4 hw4 => ⟨⟨(hI5.ste hw4).ra, (hI5.ste hw4).rb⟩, ?_⟩)))
  have hI6 := hI5.ste hw4
  clear hI5 hw4
  simp only [zA, zB, zC, Act.put, zD, zE, zF]
  refine rg_one 17 (by kernel_rfl) (rs_of rfl rfl (wp_call rfl enters_ratio rfl (HR.out _ B (Lib.hid hI6.er)) (fun w5 hw5 => ⟨⟨(hI6.below hw5).ra, (hI6.below hw5).rb⟩, ?_⟩)))
  have hI := hI6.below hw5
  have hS := And.intro hI.ra hI.rb
  clear hI6 hw5
  simp only [zA, zB, zC, Act.put, zD, zE, zF]
  refine rg_take 18 (ratV z5 q5 false p5) rfl (by kernel_rfl) (by kernel_rfl) (by kernel_rfl) (fun _ _ _ h => h) rfl (fun w _ => ?_) hS ?_
  ·go_simp
  simp only [zA, zB, zC, Act.put, zD, zE, zF]
  refine rg_take 19 (v5) rfl (by kernel_rfl) (by kernel_rfl) (by kernel_rfl) (fun _ _ _ h => h) rfl (fun w _ => ?_) hS ?_
  ·go_simp
  simp only [zA, zB, zC, Act.put, zD, zE, zF]
  have b5 := st18_but w5 (S + 1 + 1) z5 q5 false p5
  have hS2 := And.intro (hS.1.but b5 (by omega)) (hS.2.but b5 (by omega))
  refine rg_one 20 (by kernel_rfl) ?_
  refine rs_of rfl rfl ?_
  refine stores_rat (.tmp 4) (.tmp 37) rfl (b := S + 1 + 1) (s := z5) (n := q5) (t := false) (d := p5) rfl rfl hI.rz ⟨hS2, ?_⟩
  clear hS
  have hS := hS2
  simp only [zA, zB, zC, Act.put, zD, zE, zF]
  refine rg_take 21 (v5) rfl (by kernel_rfl) (by kernel_rfl) (by kernel_rfl) (fun _ _ _ h => h) rfl (fun w _ => ?_) hS ?_
  ·go_simp
  simp only [zA, zB, zC, Act.put, zD, zE, zF]
  refine wpAnyH_done (by kernel_rfl) ?_ _
  go_wp2_with fail
  refine bodyPost_ret (v := .tuple #[ratV z5 q5 false p5, v5]) (results_rat rfl rfl rfl (st18_at hI.rz)) rfl ⟨rfl, ?_⟩
  exact b5.2.1 S w (by omega) hI.bl
 ·have hsg : sgZ s' n' = if s' then -1 else 1 := if_neg h0
  rw [hsg] at HSG
  rw [if_neg h0] at hk1
  have hk2 : kept k0 0 = k0 := by unfold kept; split <;> simp_all
  rw [hk2] at hk1
  subst hk1
  have hc : ((if s' = true then (-1 : Int) else 1) == 0) = false := by cases s' <;> rfl
  generalize (if s' = true then (-1 : Int) else 1) = c at *
  clear hsg h0 hk2
  go_enter Tryz.func111, Tryz.ntmps111
  go_wp2_with (first | (refine wpList_box_rat rfl (.tmp 0) rfl rfl ?_) | (refine wpList_box_rat rfl (.tmp 1) rfl rfl ?_) | (refine wpList_load_rat rfl (.tmp 2) rfl rfl HT.out.1 ?_) | (refine wpList_load_rat rfl (.tmp 3) rfl rfl HT.out.2.1 ?_))
  refine (HBG.out _).mono ?_
  rintro e w1 ⟨B, rfl, hB, hP, hw1⟩
  have hI1 : OpInv w w1 S B k0 s n t d s' n' t' d' := by
   have hz := hWs.out
   exact ⟨HT.out.1.keep hw1 (by omega), HT.out.2.1.keep hw1 (by omega), HT.out.2.2.1.keep hw1 (by omega), hP.err, HT.out.2.2.2.1.trans (hw1.mono (by omega)), by omega, hP.err.lt⟩
  have hSB := hI1.hB
  have HI1 := Lib.hid hI1
  clear hI1 hP hw1 hB hW HT hWs HBG
  go_wp2_with (refine wpList_load_int rfl (.tmp 10) rfl rfl HI1.out.rb.num ?_)
  refine (HSG.out _).mono ?_
  rintro e w2 ⟨rfl, hw2⟩
  have HI4 := Lib.hid (HI1.out.below hw2)
  clear hw2 HI1 HSG
  go_wp2_with fail
  refine rg_begin (fun W' => RatAt W' S s n t d ∧ RatAt W' (S + 1) s' n' t' d') (by kernel_rfl) ⟨HI4.out.ra.drew, HI4.out.rb.drew⟩ (fun hS => ?_)
  refine rg_take 0 (.pointer (some ⟨B, 0, none⟩)) rfl (by kernel_rfl) (by kernel_rfl) (by kernel_rfl) (fun _ _ _ h => h) rfl (fun w _ => ?_) hS ?_
  ·go_simp
  simp only [zA, zB, zC, Act.put, zD, zE, zF]
  refine rg_take 1 (.pointer (some ⟨B, 0, none⟩)) rfl (by kernel_rfl) (by kernel_rfl) (by kernel_rfl) (fun _ _ _ h => h) rfl (fun w _ => ?_) hS ?_
  ·go_simp
  simp only [zA, zB, zC, Act.put, zD, zE, zF]
  refine rg_take 2 (.pointer (some ⟨B, 0, none⟩)) rfl (by kernel_rfl) (by kernel_rfl) (by kernel_rfl) (fun _ _ _ h => h) rfl (fun w _ => ?_) hS ?_
  ·go_simp
  simp only [zA, zB, zC, Act.put, zD, zE, zF]
  refine rg_take 3 (.pointer (some ⟨B, 0, none⟩)) rfl (by kernel_rfl) (by kernel_rfl) (by kernel_rfl) (fun _ _ _ h => h) rfl (fun w _ => ?_) hS ?_
  ·go_simp
  simp only [zA, zB, zC, Act.put, zD, zE, zF]
  refine rg_take 4 (.pointer (some ⟨S, 0, none⟩)) rfl (by kernel_rfl) (by kernel_rfl) (by kernel_rfl) (fun _ _ _ h => h) rfl (fun w _ => ?_) hS ?_
  ·go_simp
  simp only [zA, zB, zC, Act.put, zD, zE, zF]
  refine rg_take 5 (intV s n) rfl (by kernel_rfl) (by kernel_rfl) (by kernel_rfl) (fun _ _ _ h => h) rfl (fun w hSw => ld_int (.tmp 23) rfl rfl hSw.1.num) hS ?_
  simp only [zA, zB, zC, Act.put, zD, zE, zF]
  refine rg_take 6 (.pointer (some ⟨S + 1, 9, none⟩)) rfl (by kernel_rfl) (by kernel_rfl) (by kernel_rfl) (fun _ _ _ h => h) rfl (fun w _ => ?_) hS ?_
  ·go_simp
  simp only [zA, zB, zC, Act.put, zD, zE, zF]
  refine rg_take 7 (intV t' d') rfl (by kernel_rfl) (by kernel_rfl) (by kernel_rfl) (fun _ _ _ h => h) rfl (fun w hSw => ld_int (.tmp 25) rfl rfl hSw.2.den) hS ?_
  simp only [zA, zB, zC, Act.put, zD, zE, zF]
  refine rg_take 9 (.pointer (some ⟨B, 0, none⟩)) rfl (by kernel_rfl) (by kernel_rfl) (by kernel_rfl) (fun _ _ _ h => h) rfl (fun w _ => ?_) hS ?_
  ·go_simp
  simp only [zA, zB, zC, Act.put, zD, zE, zF]
  refine rg_take 10 (.pointer (some ⟨B, 0, none⟩)) rfl (by kernel_rfl) (by kernel_rfl) (by kernel_rfl) (fun _ _ _ h => h) rfl (fun w _ => ?_) hS ?_
  ·go_simp
  simp only [zA, zB, zC, Act.put, zD, zE, zF]
  refine rg_take 11 (.pointer (some ⟨B, 0, none⟩)) rfl (by kernel_rfl) (by kernel_rfl) (by kernel_rfl) (fun _ _ _ h => h) rfl (fun w _ => ?_) hS ?_
  ·go_simp
  simp only [zA, zB, zC, Act.put, zD, zE, zF]
  refine rg_take 12 (.pointer (some ⟨S, 9, none⟩)) rfl (by kernel_rfl) (by kernel_rfl) (by kernel_rfl) (fun _ _ _ h => h) rfl (fun w _ => ?_) hS ?_
  ·go_simp
  simp only [zA, zB, zC, Act.put, zD, zE, zF]
  refine rg_take 13 (intV t d) rfl (by kernel_rfl) (by kernel_rfl) (by kernel_rfl) (fun _ _ _ h => h) rfl (fun w hSw => ld_int (.tmp 31) rfl rfl hSw.1.den) hS ?_
  simp only [zA, zB, zC, Act.put, zD, zE, zF]
  refine rg_take 14 (.pointer (some ⟨S + 1, 0, none⟩)) rfl (by kernel_rfl) (by kernel_rfl) (by kernel_rfl) (fun _ _ _ h => h) rfl (fun w _ => ?_) hS ?_
  ·go_simp
  simp only [zA, zB, zC, Act.put, zD, zE, zF]
  refine rg_take 15 (intV s' n') rfl (by kernel_rfl) (by kernel_rfl) (by kernel_rfl) (fun _ _ _ h => h) rfl (fun w hSw => ld_int (.tmp 33) rfl rfl hSw.2.num) hS ?_
  simp only [zA, zB, zC, Act.put, zD, zE, zF]
  clear hS
  have hI := HI4.out.drew
  clear HI4
  refine rg_one 8 (by kernel_rfl) (rs_of rfl rfl (wp_call rfl enters_do rfl (HD1.out _ B (Lib.hid hI.er)) (fun w3 hw3 => ⟨⟨(hI.ste hw3).ra, (hI.ste hw3).rb⟩, ?_⟩)))
  have hI5 := hI.ste hw3
  clear hI hw3
  simp only [zA, zB, zC, Act.put, zD, zE, zF]
  refine rg_one 16 (by kernel_rfl) (rs_of rfl rfl (wp_call rfl enters_do rfl (HD2.out _ B (Lib.hid hI5.er)) (fun w4 hw4 => ⟨⟨(hI5.ste hw4).ra, (hI5.ste hw4).rb⟩, ?_⟩)))
  have hI6 := hI5.ste hw4
  clear hI5 hw4
  simp only [zA, zB, zC, Act.put, zD, zE, zF]
  refine rg_one 17 (by kernel_rfl) (rs_of rfl rfl (wp_call rfl enters_ratio rfl (HR.out _ B (Lib.hid hI6.er)) (fun w5 hw5 => ⟨⟨(hI6.below hw5).ra, (hI6.below hw5).rb⟩, ?_⟩)))
  have hI := hI6.below hw5
  have hS := And.intro hI.ra hI.rb
  clear hI6 hw5
  simp only [zA, zB, zC, Act.put, zD, zE, zF]
  refine rg_take 18 (ratV z5 q5 false p5) rfl (by kernel_rfl) (by kernel_rfl) (by kernel_rfl) (fun _ _ _ h => h) rfl (fun w _ => ?_) hS ?_
  ·go_simp
  simp only [zA, zB, zC, Act.put, zD, zE, zF]
  refine rg_take 19 (v5) rfl (by kernel_rfl) (by kernel_rfl) (by kernel_rfl) (fun _ _ _ h => h) rfl (fun w _ => ?_) hS ?_
  ·go_simp
  simp only [zA, zB, zC, Act.put, zD, zE, zF]
  have b5 := st18_but w5 (S + 1 + 1) z5 q5 false p5
  have hS2 := And.intro (hS.1.but b5 (by omega)) (hS.2.but b5 (by omega))
  refine rg_one 20 (by kernel_rfl) ?_
  refine rs_of rfl rfl ?_
  refine stores_rat (.tmp 4) (.tmp 37) rfl (b := S + 1 + 1) (s := z5) (n := q5) (t := false) (d := p5) rfl rfl hI.rz ⟨hS2, ?_⟩
  clear hS
  have hS := hS2
  simp only [zA, zB, zC, Act.put, zD, zE, zF]
  refine rg_take 21 (v5) rfl (by kernel_rfl) (by kernel_rfl) (by kernel_rfl) (fun _ _ _ h => h) rfl (fun w _ => ?_) hS ?_
  ·go_simp
  simp only [zA, zB, zC, Act.put, zD, zE, zF]
  refine wpAnyH_done (by kernel_rfl) ?_ _
  go_wp2_with fail
  refine bodyPost_ret (v := .tuple #[ratV z5 q5 false p5, v5]) (results_rat rfl rfl rfl (st18_at hI.rz)) rfl ⟨rfl, ?_⟩
  exact b5.2.1 S w (by omega) hI.bl
end Go.Proofs.YtgoemhcngmpfbaaGreatDoor
namespace Go.Proofs.YtgoemhcngmpfbaaGreatDoor
open Go.RowKit Go.Sort
theorem kept_zero {k j : Nat} : kept k j = 0 ↔ k = 0 ∧ j = 0 := by
 unfold kept
 split
 ·next h => simp [h]
 ·next h => simp [h]
theorem resK_zero {n : Nat} : resK n = 0 ↔ Fits n := by
 unfold resK Fits
 split
 ·next h => simp [h]
 ·next h => simp [h]
theorem chk_zero {s : Bool} {n : Nat} {t : Bool} {d : Nat} : chk s n t d = 0 ↔ vld s n t d = true := by
 unfold chk
 split
 ·next h => simp [h]
 ·next h => simp [h]
def oS (k : Nat) (z : Bool) (r j : Nat) (z' : Bool) (r' j' : Nat) : Bool := rtS (kept (kept k j) j') (doS k z) (doN k r) (doS (kept k j) z') (doN (kept k j) r')
def oN (k r j r' j' : Nat) : Nat := rtN (kept (kept k j) j') (doN k r) (doN (kept k j) r')
def oD (k r j r' j' : Nat) : Nat := rtD (kept (kept k j) j') (doN k r) (doN (kept k j) r')
def oK (k j r' j' : Nat) : Nat := rtK (kept (kept k j) j') (doN (kept k j) r')
theorem opV_parts (k : Nat) (z : Bool) (r j : Nat) (z' : Bool) (r' j' : Nat) : opV k z r j z' r' j' = .tuple #[ratV (oS k z r j z' r' j') (oN k r j r' j') false (oD k r j r' j'), errV (oK k j r' j')] := rfl
theorem rtN_fits (k : Nat) {n m : Nat} (h : Fits n) : Fits (rtN k n m) := by
 unfold rtN mkN
 split
 ·split
  ·exact Nat.pow_pos (by decide)
  ·exact Nat.lt_of_le_of_lt (Nat.div_le_self _ _) h
 ·exact Nat.pow_pos (by decide)
theorem rtD_fits (k : Nat) {n m : Nat} (h : Fits m) : Fits (rtD k n m) := by
 unfold rtD mkD
 split
 ·split
  ·exact Nat.pow_pos (by decide)
  ·exact Nat.lt_of_le_of_lt (Nat.div_le_self _ _) h
 ·exact Nat.pow_pos (by decide)
theorem oN_fits (k : Nat) {r : Nat} (j r' j' : Nat) (h : Fits r) : Fits (oN k r j r' j') := rtN_fits _ (doN_fits _ h)
theorem oD_fits (k r j : Nat) {r' : Nat} (j' : Nat) (h : Fits r') : Fits (oD k r j r' j') := rtD_fits _ (doN_fits _ h)
theorem resN_of {n : Nat} (h : Fits n) : resN n = n := if_pos h
theorem resS_of (s : Bool) {n : Nat} (h : Fits n) : resS s n = sgn s n := if_pos h
end Go.Proofs.YtgoemhcngmpfbaaGreatDoor
namespace Go.Proofs.YtgoemhcngmpfbaaGreatDoor
open Go.RowKit Go.Sort
set_option linter.unusedSimpArgs false
section
variable (s : Bool) (n : Nat) (t : Bool) (d : Nat) (s' : Bool) (n' : Nat) (t' : Bool) (d' : Nat)
def k0 : Nat := kept (chk s n t d) (chk s' n' t' d')
def muS : Bool := oS (k0 s n t d s' n' t' d') (resS (s != s') (n * n')) (resN (n * n')) (resK (n * n')) (resS (t != t') (d * d')) (resN (d * d')) (resK (d * d'))
def muN : Nat := oN (k0 s n t d s' n' t' d') (resN (n * n')) (resK (n * n')) (resN (d * d')) (resK (d * d'))
def muD : Nat := oD (k0 s n t d s' n' t' d') (resN (n * n')) (resK (n * n')) (resN (d * d')) (resK (d * d'))
def muK : Nat := oK (k0 s n t d s' n' t' d') (resK (n * n')) (resN (d * d')) (resK (d * d'))
theorem mulV_eq : mulV s n t d s' n' t' d' = .tuple #[ratV (muS s n t d s' n' t' d') (muN s n t d s' n' t' d') false (muD s n t d s' n' t' d'), errV (muK s n t d s' n' t' d')] := by
 unfold mulV muS muN muD muK k0
 exact opV_parts _ _ _ _ _ _ _
def quS : Bool := oS (kept (k0 s n t d s' n' t' d') (if n' = 0 then 10 else 0)) (resS (s != t') (n * d')) (resN (n * d')) (resK (n * d')) (resS (t != s') (d * n')) (resN (d * n')) (resK (d * n'))
def quN : Nat := oN (kept (k0 s n t d s' n' t' d') (if n' = 0 then 10 else 0)) (resN (n * d')) (resK (n * d')) (resN (d * n')) (resK (d * n'))
def quD : Nat := oD (kept (k0 s n t d s' n' t' d') (if n' = 0 then 10 else 0)) (resN (n * d')) (resK (n * d')) (resN (d * n')) (resK (d * n'))
def quK : Nat := oK (kept (k0 s n t d s' n' t' d') (if n' = 0 then 10 else 0)) (resK (n * d')) (resN (d * n')) (resK (d * n'))
theorem quoV_eq : quoV s n t d s' n' t' d' = .tuple #[ratV (quS s n t d s' n' t' d') (quN s n t d s' n' t' d') false (quD s n t d s' n' t' d'), errV (quK s n t d s' n' t' d')] := by
 unfold quoV quS quN quD quK k0
 exact opV_parts _ _ _ _ _ _ _
theorem mu_fits : Fits (muN s n t d s' n' t' d') ∧ Fits (muD s n t d s' n' t' d') := ⟨oN_fits _ _ _ _ (resN_fits _), oD_fits _ _ _ _ (resN_fits _)⟩
theorem qu_fits : Fits (quN s n t d s' n' t' d') ∧ Fits (quD s n t d s' n' t' d') := ⟨oN_fits _ _ _ _ (resN_fits _), oD_fits _ _ _ _ (resN_fits _)⟩
end
section
variable {s : Bool} {n : Nat} {t : Bool} {d : Nat} {s' : Bool} {n' : Nat} {t' : Bool} {d' : Nat}
end
end Go.Proofs.YtgoemhcngmpfbaaGreatDoor
namespace Go.Proofs.YtgoemhcngmpfbaaGreatDoor
open Go.RowKit Go.Sort
set_option linter.unusedSimpArgs false
theorem eqr_run {op : Oper} {a : Act} {w : World} {x y : Operand} {u : TypeId} (ho : op.op = .binOp .eql 27 x y u) {s t s' t' : Bool} {n d n' d' : Nat} (hx : a.eval x = ratV s n t d) (hy : a.eval y = ratV s' n' t' d')
  (hn : Fits n) (hd : Fits d) (hn' : Fits n') (hd' : Fits d') : (execOp a.eval op).run Tryz.prog w = .ok (.value (.bool (decide (s = s' ∧ n = n') && decide (t = t' ∧ d = d')))) w := by
 unfold execOp
 simp only [ho, hx, hy, Sem.run_bind, Sem.run_pure, Result.andThen_ok, eqg_rat, eqRat _ _ _ _ _ _ _ _ _ hn hd hn' hd']
theorem eqr_self {op : Oper} {a : Act} {w : World} {x y : Operand} {u : TypeId} {s t : Bool} {n d : Nat} (ho : op.op = .binOp .eql 27 x y u) (hx : a.eval x = ratV s n t d) (hy : a.eval y = ratV s n t d)
  (hn : Fits n) (hd : Fits d) : (execOp a.eval op).run Tryz.prog w = .ok (.value (.bool true)) w := by
 have := eqr_run (w := w) ho hx hy hn hd hn hd
 simpa using this
theorem build_words {a : Act} {w : World} {op : Oper} {x : Operand} (ho : op.op = .build 25 #[(1, x)]) {n : Nat} (hx : a.eval x = wordsV n) : (execOp a.eval op).run Tryz.prog w = .ok (.value (intV false n)) w := by
 have hrun : (Instr.build 25 #[(1, wordsV n)]).run Tryz.prog w = .ok (intV false n) w := by
  unfold intV wordsV
  go_simp
 unfold execOp
 simp only [ho, List.map_toArray, List.map_cons, List.map_nil, hx, hrun, Sem.run_bind, Sem.run_pure, Result.andThen_ok]
theorem wpList_val {ops : Array Oper} {rest : List Oper} {op : Oper} {a : Act} {w : World} {Q : Exit → Act → World → Prop} (hw : Region.wanted op (yielded ops a.tmps) = true) {v : Value} (hv : (execOp a.eval op).run Tryz.prog w = .ok (.value v) w)
  (hK : wpList Tryz.prog ops Q rest (a.put op.dst v) w) : wpList Tryz.prog ops Q (op :: rest) a w := by
 refine wpList_step fun K hK' => ?_
 rw [if_pos hw]
 unfold Oper.wp
 rw [hv]
 exact hK' _ _ hK
end Go.Proofs.YtgoemhcngmpfbaaGreatDoor
namespace Go.Proofs.YtgoemhcngmpfbaaGreatDoor
open Go.RowKit Go.Sort
set_option linter.unusedSimpArgs false
theorem build_zeroN {a : Act} {w : World} {op : Oper} (ho : op.op = .build 25 #[]) : (execOp a.eval op).run Tryz.prog w = .ok (.value (intV false 0)) w := by
 have e : intV false 0 = .agg #[.bool false, .int .u64 0, .int .u64 0, .int .u64 0, .int .u64 0, .int .u64 0, .int .u64 0, .int .u64 0, .int .u64 0] := by simp [intV, wd_zero]
 rw [e]
 unfold execOp
 simp only [ho]
 go_simp
theorem ld_wordsB {op : Oper} {a : Act} {w : World} (x : Operand) (ho : op.op = .load 119 x) {b n : Nat} (hx : a.eval x = .pointer (some ⟨b, 0, none⟩)) (h : WordsAt w b 0 n 8) : (execOp a.eval op).run Tryz.prog w = .ok (.value (wordsV n)) w := by
 obtain ⟨⟨g0, f0⟩, ⟨g1, f1⟩, ⟨g2, f2⟩, ⟨g3, f3⟩, ⟨g4, f4⟩, ⟨g5, f5⟩, ⟨g6, f6⟩, ⟨g7, f7⟩⟩ := h.eight
 have hl : (loadVar 119 ⟨b, 0, none⟩).run Tryz.prog w = .ok (wordsV n) w := by
  refine run_loadVar_mid w b 0 119 [.int .u64 (wd n 0 : Int), .int .u64 (wd n 1 : Int), .int .u64 (wd n 2 : Int), .int .u64 (wd n 3 : Int), .int .u64 (wd n 4 : Int), .int .u64 (wd n 5 : Int), .int .u64 (wd n 6 : Int), .int .u64 (wd n 7 : Int)] (.array 8 22) ?_ (by kernel_rfl) rfl (by kernel_rfl)
  intro j v hv
  rcases j with _ | _ | _ | _ | _ | _ | _ | _ | j
  ·exact g0.trans hv
  ·exact g1.trans hv
  ·exact g2.trans hv
  ·exact g3.trans hv
  ·exact g4.trans hv
  ·exact g5.trans hv
  ·exact g6.trans hv
  ·exact g7.trans hv
  ·simp at hv
 unfold execOp
 simp only [ho, hx, Instr.loadAt, Instr.sureAddr, Sem.run_bind, Sem.run_pure, Result.andThen_ok, hl]
theorem byts_get {w : World} {B b : Nat} {s : ByteArray} (h : Byts w B (some ⟨b, 0, none⟩) (bts s)) {i : Nat} {c : UInt8} (hc : s.data.toList[i]? = some c) : w.cell? ⟨b, i, none⟩ = some (.int .u8 (c.toNat : Int)) := by
 have hi : i < s.size := by simpa using (List.getElem?_eq_some_iff.1 hc).1
 obtain ⟨b', o', e, _, hx⟩ := h.2 (by rw [bts_length]; omega)
 cases e
 have := hx i (c.toNat : Int) (by unfold bts; rw [List.getElem?_map, hc]; rfl)
 rwa [Nat.zero_add] at this
theorem get_of_lt {s : ByteArray} {i : Nat} (h : i < s.size) : ∃ c, s.data.toList[i]? = some c := ⟨s.data.toList[i]'(by simpa using h), List.getElem?_eq_getElem _⟩
theorem not_nil_of {s : ByteArray} (h : s.size ≠ 0) : s.data.toList ≠ [] := by
 intro e
 have := congrArg List.length e
 simp at this
 exact h (by rw [this]; rfl)
theorem take_all (s : ByteArray) : s.data.toList.take s.size = s.data.toList := List.take_of_length_le (by simp)
end Go.Proofs.YtgoemhcngmpfbaaGreatDoor
