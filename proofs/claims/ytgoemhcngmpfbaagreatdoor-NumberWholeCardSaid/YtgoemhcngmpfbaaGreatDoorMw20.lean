/-
  Stage 8: ratio's Quo.
-/
import Derived.Test.YtgoemhcngmpfbaaGreatDoorMw19

namespace Go.Proofs.YtgoemhcngmpfbaaGreatDoor
open Go.RowKit Go.Sort
set_option linter.unusedSimpArgs false

set_option maxRecDepth 100000 in
set_option maxHeartbeats 4000000 in
theorem RQuo_run (s : Bool) (n : Nat) (t : Bool) (d : Nat) (s' : Bool) (n' : Nat) (t' : Bool) (d' : Nat) (w : World) (hn : Hid (Fits n)) (hd : Hid (Fits d)) (hn' : Hid (Fits n')) (hd' : Hid (Fits d')) :
    Calls Tryz.prog 111 #[ratV s n t d, ratV s' n' t' d'] w fun e w' => e = .returned (quoV s n t d s' n' t' d') ∧ Below w.heap.size w w' := by
  obtain ⟨S, hS⟩ : ∃ S, w.heap.size = S := ⟨_, rfl⟩
  obtain ⟨W, hW⟩ : ∃ W, ((w.alloc (boxR s n t d 27)).alloc (boxR s' n' t' d' 27)).alloc (boxRZ 27) = W := ⟨_, rfl⟩
  have T := op_boxes w s n t d s' n' t' d' 27
  rw [hW, hS] at T
  rw [hS]
  have HT := Lib.hid T
  have hWs := Lib.hid T.2.2.2.2
  clear T
  have HBG := Lib.hid (fun W => begin_run s n t d s' n' t' d' W hn hd hn' hd')
  unfold quoV
  generalize kept (chk s n t d) (chk s' n' t' d') = k0 at *
  have HSG := Lib.hid (fun W => sign_run s' n' _ W hn' (Lib.hid rfl))
  have hkk : Hid (∃ k1, kept k0 (if n' = 0 then 10 else 0) = k1) := ⟨_, rfl⟩
  obtain ⟨k1, hk1⟩ := hkk.out
  rw [hk1]
  have HD1 : Hid (∀ W B, Hid (ErrAt W B k1) → Calls Tryz.prog 39 #[.pointer (some ⟨B, 0, none⟩), fnV 93, intV s n, intV t' d'] W fun e w' => e = .returned (intV (doS k1 (resS (s != t') (n * d'))) (doN k1 (resN (n * d')))) ∧ Ste W w' B (kept k1 (resK (n * d')))) := fun W B h => do_mul B k1 s n t' d' W h hn hd'
  have hf3 : Hid (Fits (doN k1 (resN (n * d')))) := doN_fits _ (resN_fits _)
  unfold opV
  generalize resK (n * d') = j3 at *
  generalize doS k1 (resS (s != t') (n * d')) = z3 at *
  generalize doN k1 (resN (n * d')) = r3 at *
  have HD2 : Hid (∀ W B, Hid (ErrAt W B (kept k1 j3)) → Calls Tryz.prog 39 #[.pointer (some ⟨B, 0, none⟩), fnV 93, intV t d, intV s' n'] W fun e w' => e = .returned (intV (doS (kept k1 j3) (resS (t != s') (d * n'))) (doN (kept k1 j3) (resN (d * n')))) ∧ Ste W w' B (kept (kept k1 j3) (resK (d * n')))) := fun W B h => do_mul B (kept k1 j3) t d s' n' W h hd hn'
  have hf4 : Hid (Fits (doN (kept k1 j3) (resN (d * n')))) := doN_fits _ (resN_fits _)
  generalize resK (d * n') = j4 at *
  generalize doS (kept k1 j3) (resS (t != s') (d * n')) = z4 at *
  generalize doN (kept k1 j3) (resN (d * n')) = r4 at *
  have HR := Lib.hid (fun W B (h : Hid (ErrAt W B (kept (kept k1 j3) j4))) => ratio_run B (kept (kept k1 j3) j4) z3 r3 z4 r4 W h hf3 hf4)
  generalize rtS (kept (kept k1 j3) j4) z3 r3 z4 r4 = z5 at *
  generalize rtN (kept (kept k1 j3) j4) r3 r4 = q5 at *
  generalize rtD (kept (kept k1 j3) j4) r3 r4 = p5 at *
  generalize errV (rtK (kept (kept k1 j3) j4) r4) = v5 at *
  clear hn hd hn' hd' hkk
  by_cases h0 : n' = 0
  · have hsg : sgZ s' n' = 0 := if_pos h0
    rw [hsg] at HSG
    rw [if_pos h0] at hk1
    have HKP := fun W B h => Lib.hid (keep_run B k0 10 W h)
    rw [hk1, errV_pos (show (10 : Nat) ≠ 0 by decide)] at HKP
    have HKP := Lib.hid HKP
    clear hsg hk1 h0
    go_enter Tryz.func111, Tryz.ntmps111
    go_wp2_with (first | (refine wpList_box_rat rfl (.tmp 0) rfl rfl ?_) | (refine wpList_box_rat rfl (.tmp 1) rfl rfl ?_) | (refine wpList_load_rat rfl (.tmp 2) rfl rfl HT.out.1 ?_) | (refine wpList_load_rat rfl (.tmp 3) rfl rfl HT.out.2.1 ?_))
    refine (HBG.out _).mono ?_
    rintro e w1 ⟨B, rfl, hB, hP, hw1⟩
    have hI1 : OpInv w w1 S B k0 s n t d s' n' t' d' := by
      have hz := hWs.out
      exact ⟨HT.out.1.keep hw1 (by omega), HT.out.2.1.keep hw1 (by omega), HT.out.2.2.1.keep hw1 (by omega), hP.err, HT.out.2.2.2.1.trans (hw1.mono (by omega)), by omega, hP.err.lt⟩
    have hSB := hI1.hB
    have HI1 := Lib.hid hI1
    clear hI1 hP hw1 hB hW HT hWs HBG
    go_wp2_with (refine wpList_load_int rfl (.tmp 10) rfl rfl HI1.out.rb.num ?_)
    refine (HSG.out _).mono ?_
    rintro e w2 ⟨rfl, hw2⟩
    have HI2 := Lib.hid (HI1.out.below hw2)
    clear hw2 HI1 HSG
    go_wp2_with fail
    refine (HKP _ B (Lib.hid HI2.out.er)).out.mono ?_
    rintro e w2' ⟨rfl, hw2⟩
    have HI4 := Lib.hid (HI2.out.ste hw2)
    clear hw2 HI2 HKP
    go_wp2_with fail
    refine rg_begin (fun W' => RatAt W' S s n t d ∧ RatAt W' (S + 1) s' n' t' d') (by kernel_rfl) ⟨HI4.out.ra.drew, HI4.out.rb.drew⟩ (fun hS => ?_)
    refine rg_take 0 (.pointer (some ⟨B, 0, none⟩)) rfl (by kernel_rfl) (by kernel_rfl) (by kernel_rfl) (fun _ _ _ h => h) rfl (fun w _ => ?_) hS ?_
    · go_simp
    simp only [List.getElem_toArray, List.getElem_cons_zero, List.getElem_cons_succ, Act.put, List.setIfInBounds_toArray, List.set_cons_zero, List.set_cons_succ]
    refine rg_take 1 (.pointer (some ⟨B, 0, none⟩)) rfl (by kernel_rfl) (by kernel_rfl) (by kernel_rfl) (fun _ _ _ h => h) rfl (fun w _ => ?_) hS ?_
    · go_simp
    simp only [List.getElem_toArray, List.getElem_cons_zero, List.getElem_cons_succ, Act.put, List.setIfInBounds_toArray, List.set_cons_zero, List.set_cons_succ]
    refine rg_take 2 (.pointer (some ⟨B, 0, none⟩)) rfl (by kernel_rfl) (by kernel_rfl) (by kernel_rfl) (fun _ _ _ h => h) rfl (fun w _ => ?_) hS ?_
    · go_simp
    simp only [List.getElem_toArray, List.getElem_cons_zero, List.getElem_cons_succ, Act.put, List.setIfInBounds_toArray, List.set_cons_zero, List.set_cons_succ]
    refine rg_take 3 (.pointer (some ⟨B, 0, none⟩)) rfl (by kernel_rfl) (by kernel_rfl) (by kernel_rfl) (fun _ _ _ h => h) rfl (fun w _ => ?_) hS ?_
    · go_simp
    simp only [List.getElem_toArray, List.getElem_cons_zero, List.getElem_cons_succ, Act.put, List.setIfInBounds_toArray, List.set_cons_zero, List.set_cons_succ]
    refine rg_take 4 (.pointer (some ⟨S, 0, none⟩)) rfl (by kernel_rfl) (by kernel_rfl) (by kernel_rfl) (fun _ _ _ h => h) rfl (fun w _ => ?_) hS ?_
    · go_simp
    simp only [List.getElem_toArray, List.getElem_cons_zero, List.getElem_cons_succ, Act.put, List.setIfInBounds_toArray, List.set_cons_zero, List.set_cons_succ]
    refine rg_take 5 (intV s n) rfl (by kernel_rfl) (by kernel_rfl) (by kernel_rfl) (fun _ _ _ h => h) rfl (fun w hSw => ld_int (.tmp 23) rfl rfl hSw.1.num) hS ?_
    simp only [List.getElem_toArray, List.getElem_cons_zero, List.getElem_cons_succ, Act.put, List.setIfInBounds_toArray, List.set_cons_zero, List.set_cons_succ]
    refine rg_take 6 (.pointer (some ⟨S + 1, 9, none⟩)) rfl (by kernel_rfl) (by kernel_rfl) (by kernel_rfl) (fun _ _ _ h => h) rfl (fun w _ => ?_) hS ?_
    · go_simp
    simp only [List.getElem_toArray, List.getElem_cons_zero, List.getElem_cons_succ, Act.put, List.setIfInBounds_toArray, List.set_cons_zero, List.set_cons_succ]
    refine rg_take 7 (intV t' d') rfl (by kernel_rfl) (by kernel_rfl) (by kernel_rfl) (fun _ _ _ h => h) rfl (fun w hSw => ld_int (.tmp 25) rfl rfl hSw.2.den) hS ?_
    simp only [List.getElem_toArray, List.getElem_cons_zero, List.getElem_cons_succ, Act.put, List.setIfInBounds_toArray, List.set_cons_zero, List.set_cons_succ]
    refine rg_take 9 (.pointer (some ⟨B, 0, none⟩)) rfl (by kernel_rfl) (by kernel_rfl) (by kernel_rfl) (fun _ _ _ h => h) rfl (fun w _ => ?_) hS ?_
    · go_simp
    simp only [List.getElem_toArray, List.getElem_cons_zero, List.getElem_cons_succ, Act.put, List.setIfInBounds_toArray, List.set_cons_zero, List.set_cons_succ]
    refine rg_take 10 (.pointer (some ⟨B, 0, none⟩)) rfl (by kernel_rfl) (by kernel_rfl) (by kernel_rfl) (fun _ _ _ h => h) rfl (fun w _ => ?_) hS ?_
    · go_simp
    simp only [List.getElem_toArray, List.getElem_cons_zero, List.getElem_cons_succ, Act.put, List.setIfInBounds_toArray, List.set_cons_zero, List.set_cons_succ]
    refine rg_take 11 (.pointer (some ⟨B, 0, none⟩)) rfl (by kernel_rfl) (by kernel_rfl) (by kernel_rfl) (fun _ _ _ h => h) rfl (fun w _ => ?_) hS ?_
    · go_simp
    simp only [List.getElem_toArray, List.getElem_cons_zero, List.getElem_cons_succ, Act.put, List.setIfInBounds_toArray, List.set_cons_zero, List.set_cons_succ]
    refine rg_take 12 (.pointer (some ⟨S, 9, none⟩)) rfl (by kernel_rfl) (by kernel_rfl) (by kernel_rfl) (fun _ _ _ h => h) rfl (fun w _ => ?_) hS ?_
    · go_simp
    simp only [List.getElem_toArray, List.getElem_cons_zero, List.getElem_cons_succ, Act.put, List.setIfInBounds_toArray, List.set_cons_zero, List.set_cons_succ]
    refine rg_take 13 (intV t d) rfl (by kernel_rfl) (by kernel_rfl) (by kernel_rfl) (fun _ _ _ h => h) rfl (fun w hSw => ld_int (.tmp 31) rfl rfl hSw.1.den) hS ?_
    simp only [List.getElem_toArray, List.getElem_cons_zero, List.getElem_cons_succ, Act.put, List.setIfInBounds_toArray, List.set_cons_zero, List.set_cons_succ]
    refine rg_take 14 (.pointer (some ⟨S + 1, 0, none⟩)) rfl (by kernel_rfl) (by kernel_rfl) (by kernel_rfl) (fun _ _ _ h => h) rfl (fun w _ => ?_) hS ?_
    · go_simp
    simp only [List.getElem_toArray, List.getElem_cons_zero, List.getElem_cons_succ, Act.put, List.setIfInBounds_toArray, List.set_cons_zero, List.set_cons_succ]
    refine rg_take 15 (intV s' n') rfl (by kernel_rfl) (by kernel_rfl) (by kernel_rfl) (fun _ _ _ h => h) rfl (fun w hSw => ld_int (.tmp 33) rfl rfl hSw.2.num) hS ?_
    simp only [List.getElem_toArray, List.getElem_cons_zero, List.getElem_cons_succ, Act.put, List.setIfInBounds_toArray, List.set_cons_zero, List.set_cons_succ]
    clear hS
    have hI := HI4.out.drew
    clear HI4
    refine rg_one 8 (by kernel_rfl) (rs_of rfl rfl (wp_call rfl enters_do rfl (HD1.out _ B (Lib.hid hI.er)) (fun w3 hw3 => ⟨⟨(hI.ste hw3).ra, (hI.ste hw3).rb⟩, ?_⟩)))
    have hI5 := hI.ste hw3
    clear hI hw3
    simp only [List.getElem_toArray, List.getElem_cons_zero, List.getElem_cons_succ, Act.put, List.setIfInBounds_toArray, List.set_cons_zero, List.set_cons_succ]
    refine rg_one 16 (by kernel_rfl) (rs_of rfl rfl (wp_call rfl enters_do rfl (HD2.out _ B (Lib.hid hI5.er)) (fun w4 hw4 => ⟨⟨(hI5.ste hw4).ra, (hI5.ste hw4).rb⟩, ?_⟩)))
    have hI6 := hI5.ste hw4
    clear hI5 hw4
    simp only [List.getElem_toArray, List.getElem_cons_zero, List.getElem_cons_succ, Act.put, List.setIfInBounds_toArray, List.set_cons_zero, List.set_cons_succ]
    refine rg_one 17 (by kernel_rfl) (rs_of rfl rfl (wp_call rfl enters_ratio rfl (HR.out _ B (Lib.hid hI6.er)) (fun w5 hw5 => ⟨⟨(hI6.below hw5).ra, (hI6.below hw5).rb⟩, ?_⟩)))
    have hI := hI6.below hw5
    have hS := And.intro hI.ra hI.rb
    clear hI6 hw5
    simp only [List.getElem_toArray, List.getElem_cons_zero, List.getElem_cons_succ, Act.put, List.setIfInBounds_toArray, List.set_cons_zero, List.set_cons_succ]
    refine rg_take 18 (ratV z5 q5 false p5) rfl (by kernel_rfl) (by kernel_rfl) (by kernel_rfl) (fun _ _ _ h => h) rfl (fun w _ => ?_) hS ?_
    · go_simp
    simp only [List.getElem_toArray, List.getElem_cons_zero, List.getElem_cons_succ, Act.put, List.setIfInBounds_toArray, List.set_cons_zero, List.set_cons_succ]
    refine rg_take 19 (v5) rfl (by kernel_rfl) (by kernel_rfl) (by kernel_rfl) (fun _ _ _ h => h) rfl (fun w _ => ?_) hS ?_
    · go_simp
    simp only [List.getElem_toArray, List.getElem_cons_zero, List.getElem_cons_succ, Act.put, List.setIfInBounds_toArray, List.set_cons_zero, List.set_cons_succ]
    have b5 := st18_but w5 (S + 1 + 1) z5 q5 false p5
    have hS2 := And.intro (hS.1.but b5 (by omega)) (hS.2.but b5 (by omega))
    refine rg_one 20 (by kernel_rfl) ?_
    refine rs_of rfl rfl ?_
    refine stores_rat (.tmp 4) (.tmp 37) rfl (b := S + 1 + 1) (s := z5) (n := q5) (t := false) (d := p5) rfl rfl hI.rz ⟨hS2, ?_⟩
    clear hS
    have hS := hS2
    simp only [List.getElem_toArray, List.getElem_cons_zero, List.getElem_cons_succ, Act.put, List.setIfInBounds_toArray, List.set_cons_zero, List.set_cons_succ]
    refine rg_take 21 (v5) rfl (by kernel_rfl) (by kernel_rfl) (by kernel_rfl) (fun _ _ _ h => h) rfl (fun w _ => ?_) hS ?_
    · go_simp
    simp only [List.getElem_toArray, List.getElem_cons_zero, List.getElem_cons_succ, Act.put, List.setIfInBounds_toArray, List.set_cons_zero, List.set_cons_succ]
    refine wpAnyH_done (by kernel_rfl) ?_ _
    go_wp2_with fail
    refine bodyPost_ret (v := .tuple #[ratV z5 q5 false p5, v5]) (results_rat rfl rfl rfl (st18_at hI.rz)) rfl ⟨rfl, ?_⟩
    exact b5.2.1 S w (by omega) hI.bl
  · have hsg : sgZ s' n' = if s' then -1 else 1 := if_neg h0
    rw [hsg] at HSG
    rw [if_neg h0] at hk1
    have hk2 : kept k0 0 = k0 := by unfold kept; split <;> simp_all
    rw [hk2] at hk1
    subst hk1
    have hc : ((if s' = true then (-1 : Int) else 1) == 0) = false := by cases s' <;> rfl
    generalize (if s' = true then (-1 : Int) else 1) = c at *
    clear hsg h0 hk2
    go_enter Tryz.func111, Tryz.ntmps111
    go_wp2_with (first | (refine wpList_box_rat rfl (.tmp 0) rfl rfl ?_) | (refine wpList_box_rat rfl (.tmp 1) rfl rfl ?_) | (refine wpList_load_rat rfl (.tmp 2) rfl rfl HT.out.1 ?_) | (refine wpList_load_rat rfl (.tmp 3) rfl rfl HT.out.2.1 ?_))
    refine (HBG.out _).mono ?_
    rintro e w1 ⟨B, rfl, hB, hP, hw1⟩
    have hI1 : OpInv w w1 S B k0 s n t d s' n' t' d' := by
      have hz := hWs.out
      exact ⟨HT.out.1.keep hw1 (by omega), HT.out.2.1.keep hw1 (by omega), HT.out.2.2.1.keep hw1 (by omega), hP.err, HT.out.2.2.2.1.trans (hw1.mono (by omega)), by omega, hP.err.lt⟩
    have hSB := hI1.hB
    have HI1 := Lib.hid hI1
    clear hI1 hP hw1 hB hW HT hWs HBG
    go_wp2_with (refine wpList_load_int rfl (.tmp 10) rfl rfl HI1.out.rb.num ?_)
    refine (HSG.out _).mono ?_
    rintro e w2 ⟨rfl, hw2⟩
    have HI4 := Lib.hid (HI1.out.below hw2)
    clear hw2 HI1 HSG
    go_wp2_with fail
    refine rg_begin (fun W' => RatAt W' S s n t d ∧ RatAt W' (S + 1) s' n' t' d') (by kernel_rfl) ⟨HI4.out.ra.drew, HI4.out.rb.drew⟩ (fun hS => ?_)
    refine rg_take 0 (.pointer (some ⟨B, 0, none⟩)) rfl (by kernel_rfl) (by kernel_rfl) (by kernel_rfl) (fun _ _ _ h => h) rfl (fun w _ => ?_) hS ?_
    · go_simp
    simp only [List.getElem_toArray, List.getElem_cons_zero, List.getElem_cons_succ, Act.put, List.setIfInBounds_toArray, List.set_cons_zero, List.set_cons_succ]
    refine rg_take 1 (.pointer (some ⟨B, 0, none⟩)) rfl (by kernel_rfl) (by kernel_rfl) (by kernel_rfl) (fun _ _ _ h => h) rfl (fun w _ => ?_) hS ?_
    · go_simp
    simp only [List.getElem_toArray, List.getElem_cons_zero, List.getElem_cons_succ, Act.put, List.setIfInBounds_toArray, List.set_cons_zero, List.set_cons_succ]
    refine rg_take 2 (.pointer (some ⟨B, 0, none⟩)) rfl (by kernel_rfl) (by kernel_rfl) (by kernel_rfl) (fun _ _ _ h => h) rfl (fun w _ => ?_) hS ?_
    · go_simp
    simp only [List.getElem_toArray, List.getElem_cons_zero, List.getElem_cons_succ, Act.put, List.setIfInBounds_toArray, List.set_cons_zero, List.set_cons_succ]
    refine rg_take 3 (.pointer (some ⟨B, 0, none⟩)) rfl (by kernel_rfl) (by kernel_rfl) (by kernel_rfl) (fun _ _ _ h => h) rfl (fun w _ => ?_) hS ?_
    · go_simp
    simp only [List.getElem_toArray, List.getElem_cons_zero, List.getElem_cons_succ, Act.put, List.setIfInBounds_toArray, List.set_cons_zero, List.set_cons_succ]
    refine rg_take 4 (.pointer (some ⟨S, 0, none⟩)) rfl (by kernel_rfl) (by kernel_rfl) (by kernel_rfl) (fun _ _ _ h => h) rfl (fun w _ => ?_) hS ?_
    · go_simp
    simp only [List.getElem_toArray, List.getElem_cons_zero, List.getElem_cons_succ, Act.put, List.setIfInBounds_toArray, List.set_cons_zero, List.set_cons_succ]
    refine rg_take 5 (intV s n) rfl (by kernel_rfl) (by kernel_rfl) (by kernel_rfl) (fun _ _ _ h => h) rfl (fun w hSw => ld_int (.tmp 23) rfl rfl hSw.1.num) hS ?_
    simp only [List.getElem_toArray, List.getElem_cons_zero, List.getElem_cons_succ, Act.put, List.setIfInBounds_toArray, List.set_cons_zero, List.set_cons_succ]
    refine rg_take 6 (.pointer (some ⟨S + 1, 9, none⟩)) rfl (by kernel_rfl) (by kernel_rfl) (by kernel_rfl) (fun _ _ _ h => h) rfl (fun w _ => ?_) hS ?_
    · go_simp
    simp only [List.getElem_toArray, List.getElem_cons_zero, List.getElem_cons_succ, Act.put, List.setIfInBounds_toArray, List.set_cons_zero, List.set_cons_succ]
    refine rg_take 7 (intV t' d') rfl (by kernel_rfl) (by kernel_rfl) (by kernel_rfl) (fun _ _ _ h => h) rfl (fun w hSw => ld_int (.tmp 25) rfl rfl hSw.2.den) hS ?_
    simp only [List.getElem_toArray, List.getElem_cons_zero, List.getElem_cons_succ, Act.put, List.setIfInBounds_toArray, List.set_cons_zero, List.set_cons_succ]
    refine rg_take 9 (.pointer (some ⟨B, 0, none⟩)) rfl (by kernel_rfl) (by kernel_rfl) (by kernel_rfl) (fun _ _ _ h => h) rfl (fun w _ => ?_) hS ?_
    · go_simp
    simp only [List.getElem_toArray, List.getElem_cons_zero, List.getElem_cons_succ, Act.put, List.setIfInBounds_toArray, List.set_cons_zero, List.set_cons_succ]
    refine rg_take 10 (.pointer (some ⟨B, 0, none⟩)) rfl (by kernel_rfl) (by kernel_rfl) (by kernel_rfl) (fun _ _ _ h => h) rfl (fun w _ => ?_) hS ?_
    · go_simp
    simp only [List.getElem_toArray, List.getElem_cons_zero, List.getElem_cons_succ, Act.put, List.setIfInBounds_toArray, List.set_cons_zero, List.set_cons_succ]
    refine rg_take 11 (.pointer (some ⟨B, 0, none⟩)) rfl (by kernel_rfl) (by kernel_rfl) (by kernel_rfl) (fun _ _ _ h => h) rfl (fun w _ => ?_) hS ?_
    · go_simp
    simp only [List.getElem_toArray, List.getElem_cons_zero, List.getElem_cons_succ, Act.put, List.setIfInBounds_toArray, List.set_cons_zero, List.set_cons_succ]
    refine rg_take 12 (.pointer (some ⟨S, 9, none⟩)) rfl (by kernel_rfl) (by kernel_rfl) (by kernel_rfl) (fun _ _ _ h => h) rfl (fun w _ => ?_) hS ?_
    · go_simp
    simp only [List.getElem_toArray, List.getElem_cons_zero, List.getElem_cons_succ, Act.put, List.setIfInBounds_toArray, List.set_cons_zero, List.set_cons_succ]
    refine rg_take 13 (intV t d) rfl (by kernel_rfl) (by kernel_rfl) (by kernel_rfl) (fun _ _ _ h => h) rfl (fun w hSw => ld_int (.tmp 31) rfl rfl hSw.1.den) hS ?_
    simp only [List.getElem_toArray, List.getElem_cons_zero, List.getElem_cons_succ, Act.put, List.setIfInBounds_toArray, List.set_cons_zero, List.set_cons_succ]
    refine rg_take 14 (.pointer (some ⟨S + 1, 0, none⟩)) rfl (by kernel_rfl) (by kernel_rfl) (by kernel_rfl) (fun _ _ _ h => h) rfl (fun w _ => ?_) hS ?_
    · go_simp
    simp only [List.getElem_toArray, List.getElem_cons_zero, List.getElem_cons_succ, Act.put, List.setIfInBounds_toArray, List.set_cons_zero, List.set_cons_succ]
    refine rg_take 15 (intV s' n') rfl (by kernel_rfl) (by kernel_rfl) (by kernel_rfl) (fun _ _ _ h => h) rfl (fun w hSw => ld_int (.tmp 33) rfl rfl hSw.2.num) hS ?_
    simp only [List.getElem_toArray, List.getElem_cons_zero, List.getElem_cons_succ, Act.put, List.setIfInBounds_toArray, List.set_cons_zero, List.set_cons_succ]
    clear hS
    have hI := HI4.out.drew
    clear HI4
    refine rg_one 8 (by kernel_rfl) (rs_of rfl rfl (wp_call rfl enters_do rfl (HD1.out _ B (Lib.hid hI.er)) (fun w3 hw3 => ⟨⟨(hI.ste hw3).ra, (hI.ste hw3).rb⟩, ?_⟩)))
    have hI5 := hI.ste hw3
    clear hI hw3
    simp only [List.getElem_toArray, List.getElem_cons_zero, List.getElem_cons_succ, Act.put, List.setIfInBounds_toArray, List.set_cons_zero, List.set_cons_succ]
    refine rg_one 16 (by kernel_rfl) (rs_of rfl rfl (wp_call rfl enters_do rfl (HD2.out _ B (Lib.hid hI5.er)) (fun w4 hw4 => ⟨⟨(hI5.ste hw4).ra, (hI5.ste hw4).rb⟩, ?_⟩)))
    have hI6 := hI5.ste hw4
    clear hI5 hw4
    simp only [List.getElem_toArray, List.getElem_cons_zero, List.getElem_cons_succ, Act.put, List.setIfInBounds_toArray, List.set_cons_zero, List.set_cons_succ]
    refine rg_one 17 (by kernel_rfl) (rs_of rfl rfl (wp_call rfl enters_ratio rfl (HR.out _ B (Lib.hid hI6.er)) (fun w5 hw5 => ⟨⟨(hI6.below hw5).ra, (hI6.below hw5).rb⟩, ?_⟩)))
    have hI := hI6.below hw5
    have hS := And.intro hI.ra hI.rb
    clear hI6 hw5
    simp only [List.getElem_toArray, List.getElem_cons_zero, List.getElem_cons_succ, Act.put, List.setIfInBounds_toArray, List.set_cons_zero, List.set_cons_succ]
    refine rg_take 18 (ratV z5 q5 false p5) rfl (by kernel_rfl) (by kernel_rfl) (by kernel_rfl) (fun _ _ _ h => h) rfl (fun w _ => ?_) hS ?_
    · go_simp
    simp only [List.getElem_toArray, List.getElem_cons_zero, List.getElem_cons_succ, Act.put, List.setIfInBounds_toArray, List.set_cons_zero, List.set_cons_succ]
    refine rg_take 19 (v5) rfl (by kernel_rfl) (by kernel_rfl) (by kernel_rfl) (fun _ _ _ h => h) rfl (fun w _ => ?_) hS ?_
    · go_simp
    simp only [List.getElem_toArray, List.getElem_cons_zero, List.getElem_cons_succ, Act.put, List.setIfInBounds_toArray, List.set_cons_zero, List.set_cons_succ]
    have b5 := st18_but w5 (S + 1 + 1) z5 q5 false p5
    have hS2 := And.intro (hS.1.but b5 (by omega)) (hS.2.but b5 (by omega))
    refine rg_one 20 (by kernel_rfl) ?_
    refine rs_of rfl rfl ?_
    refine stores_rat (.tmp 4) (.tmp 37) rfl (b := S + 1 + 1) (s := z5) (n := q5) (t := false) (d := p5) rfl rfl hI.rz ⟨hS2, ?_⟩
    clear hS
    have hS := hS2
    simp only [List.getElem_toArray, List.getElem_cons_zero, List.getElem_cons_succ, Act.put, List.setIfInBounds_toArray, List.set_cons_zero, List.set_cons_succ]
    refine rg_take 21 (v5) rfl (by kernel_rfl) (by kernel_rfl) (by kernel_rfl) (fun _ _ _ h => h) rfl (fun w _ => ?_) hS ?_
    · go_simp
    simp only [List.getElem_toArray, List.getElem_cons_zero, List.getElem_cons_succ, Act.put, List.setIfInBounds_toArray, List.set_cons_zero, List.set_cons_succ]
    refine wpAnyH_done (by kernel_rfl) ?_ _
    go_wp2_with fail
    refine bodyPost_ret (v := .tuple #[ratV z5 q5 false p5, v5]) (results_rat rfl rfl rfl (st18_at hI.rz)) rfl ⟨rfl, ?_⟩
    exact b5.2.1 S w (by omega) hI.bl
end Go.Proofs.YtgoemhcngmpfbaaGreatDoor

/-
  Stage 8: the mathematics of ratios: numbers with a sign, lowest terms, when a call has no error.
-/
namespace Go.Proofs.YtgoemhcngmpfbaaGreatDoor
open Go.RowKit Go.Sort

/-- The value of a sign and a size. -/
def iv (s : Bool) (n : Nat) : Int := if s then -(n : Int) else n
theorem iv_true (n : Nat) : iv true n = -(n : Int) := rfl
theorem iv_false (n : Nat) : iv false n = n := rfl
theorem iv_abs (s : Bool) (n : Nat) : (iv s n).natAbs = n := by cases s <;> simp [iv]
theorem iv_zero (s : Bool) : iv s 0 = 0 := by cases s <;> rfl
theorem sgn_zero (s : Bool) : sgn s 0 = false := by cases s <;> rfl
theorem sgn_pos (s : Bool) {n : Nat} (h : n ≠ 0) : sgn s n = s := by simp [sgn, h]
theorem sgn_sgn (s : Bool) (n : Nat) : sgn (sgn s n) n = sgn s n := by
  by_cases h : n = 0
  · subst h; rw [sgn_zero, sgn_zero]
  · rw [sgn_pos _ h]
theorem iv_sgn (s : Bool) (n : Nat) : iv (sgn s n) n = iv s n := by
  by_cases h : n = 0
  · subst h; rw [iv_zero, iv_zero]
  · rw [sgn_pos _ h]
theorem iv_mul (s t : Bool) (n m : Nat) : iv (s != t) (n * m) = iv s n * iv t m := by
  cases s <;> cases t <;> simp [iv, Int.neg_mul, Int.mul_neg]
theorem iv_nat (s : Bool) (n m : Nat) : iv s (n * m) = iv s n * m := by cases s <;> simp [iv, Int.neg_mul]
theorem iv_not (s : Bool) (n : Nat) : iv (!s) n = -iv s n := by cases s <;> simp [iv]
theorem iv_add (s : Bool) (n : Nat) (t : Bool) (m : Nat) : iv (addS s n t m) (addN s n t m) = iv s n + iv t m := by
  unfold addS addN iv
  by_cases h : n < m <;> cases s <;> cases t <;> simp [h] <;> omega
theorem iv_inj {s t : Bool} {n m : Nat} (hs : sgn s n = s) (ht : sgn t m = t) (h : iv s n = iv t m) : s = t ∧ n = m := by
  have hnm : n = m := by rw [← iv_abs s n, h, iv_abs]
  subst hnm
  refine ⟨?_, rfl⟩
  by_cases hn : n = 0
  · subst hn; rw [sgn_zero] at hs ht; rw [← hs, ← ht]
  · unfold iv at h
    cases s <;> cases t <;> simp at h ⊢ <;> omega
/-- How two numbers stand. -/
def cmpI (x y : Int) : Int := if x < y then -1 else if y < x then 1 else 0
theorem cmpS_iv (s : Bool) (n : Nat) (t : Bool) (m : Nat) : cmpS s n t m = cmpI (iv s n) (iv t m) := by
  unfold cmpS cmpI cmpN
  by_cases hn : n = 0 <;> by_cases hm : m = 0 <;> cases s <;> cases t <;> simp [sgn, hn, hm, iv] <;> (try omega) <;> (repeat' split) <;> (try omega) <;> simp_all
theorem kept_zero {k j : Nat} : kept k j = 0 ↔ k = 0 ∧ j = 0 := by
  unfold kept
  split
  · next h => simp [h]
  · next h => simp [h]
theorem resK_zero {n : Nat} : resK n = 0 ↔ Fits n := by
  unfold resK Fits
  split
  · next h => simp [h]
  · next h => simp [h]
theorem chk_zero {s : Bool} {n : Nat} {t : Bool} {d : Nat} : chk s n t d = 0 ↔ vld s n t d = true := by
  unfold chk
  split
  · next h => simp [h]
  · next h => simp [h]
/-- X / Y in lowest terms. -/
def IsLow (X : Int) (Y : Nat) (s : Bool) (n d : Nat) : Prop := vld s n false d = true ∧ ∃ g : Nat, 0 < g ∧ iv s n * g = X ∧ d * g = Y
theorem vld_mk {s : Bool} {n d : Nat} (h1 : sgn s n = s) (h2 : 0 < d) (h3 : Nat.gcd n d = 1) : vld s n false d = true := by
  simp [vld, h1, h2, h3]
theorem mk_low (s : Bool) (n : Nat) (t : Bool) (m : Nat) (hm : 0 < m) : IsLow (iv (s != t) n) m (mkS s n t m) (mkN n m) (mkD n m) := by
  have hg : 0 < Nat.gcd n m := Nat.gcd_pos_of_pos_right _ hm
  have h1 : n / Nat.gcd n m * Nat.gcd n m = n := Nat.div_mul_cancel (Nat.gcd_dvd_left n m)
  have h2 : m / Nat.gcd n m * Nat.gcd n m = m := Nat.div_mul_cancel (Nat.gcd_dvd_right n m)
  have hm0 : m ≠ 0 := by omega
  unfold mkS mkN mkD
  rw [if_neg hm0, if_neg hm0, if_neg hm0]
  refine ⟨vld_mk (sgn_sgn _ _) ?_ (by rw [Nat.gcd_div (Nat.gcd_dvd_left n m) (Nat.gcd_dvd_right n m), Nat.div_self hg]), Nat.gcd n m, hg, ?_, h2⟩
  · exact Nat.div_pos (Nat.le_of_dvd hm (Nat.gcd_dvd_right n m)) hg
  · rw [iv_sgn, ← iv_nat, h1]
theorem IsLow.uniq {X : Int} {Y : Nat} {s s0 : Bool} {n d n0 d0 : Nat} (h : IsLow X Y s n d) (h0 : vld s0 n0 false d0 = true) (he : X * d0 = iv s0 n0 * Y) : s = s0 ∧ n = n0 ∧ d = d0 := by
  obtain ⟨hv, g, hg, hX, hY⟩ := h
  obtain ⟨hs, _, hd, hc⟩ := vld_spec hv
  obtain ⟨hs0, _, hd0, hc0⟩ := vld_spec h0
  have e1 : iv s n * d0 = iv s0 n0 * d := by
    rw [← hX, ← hY] at he
    have hgi : (g : Int) ≠ 0 := by omega
    apply Int.eq_of_mul_eq_mul_right hgi
    rw [Int.natCast_mul] at he
    calc iv s n * d0 * g = iv s n * g * d0 := by rw [Int.mul_right_comm]
      _ = iv s0 n0 * (d * g) := he
      _ = iv s0 n0 * d * g := by rw [Int.mul_assoc]
  have e2 : n * d0 = n0 * d := by
    have := congrArg Int.natAbs e1
    simpa [Int.natAbs_mul, iv_abs] using this
  have c1 : Nat.Coprime d n := by rw [Nat.coprime_comm]; exact hc
  have c2 : Nat.Coprime d0 n0 := by rw [Nat.coprime_comm]; exact hc0
  have d1 : d ∣ d0 := c1.dvd_of_dvd_mul_left (e2 ▸ Nat.dvd_mul_left d n0)
  have d2 : d0 ∣ d := c2.dvd_of_dvd_mul_left (e2 ▸ Nat.dvd_mul_left d0 n)
  have hdd : d = d0 := Nat.dvd_antisymm d1 d2
  subst hdd
  have hnn : n = n0 := Nat.eq_of_mul_eq_mul_right hd e2
  subst hnn
  have hdi : (d : Int) ≠ 0 := by omega
  have e3 := Int.eq_of_mul_eq_mul_right hdi e1
  exact ⟨(iv_inj hs hs0 e3).1, rfl, rfl⟩
/-- The parts of what the calls with two ratios answer. -/
def oS (k : Nat) (z : Bool) (r j : Nat) (z' : Bool) (r' j' : Nat) : Bool := rtS (kept (kept k j) j') (doS k z) (doN k r) (doS (kept k j) z') (doN (kept k j) r')
def oN (k r j r' j' : Nat) : Nat := rtN (kept (kept k j) j') (doN k r) (doN (kept k j) r')
def oD (k r j r' j' : Nat) : Nat := rtD (kept (kept k j) j') (doN k r) (doN (kept k j) r')
def oK (k j r' j' : Nat) : Nat := rtK (kept (kept k j) j') (doN (kept k j) r')
theorem opV_parts (k : Nat) (z : Bool) (r j : Nat) (z' : Bool) (r' j' : Nat) : opV k z r j z' r' j' = .tuple #[ratV (oS k z r j z' r' j') (oN k r j r' j') false (oD k r j r' j'), errV (oK k j r' j')] := rfl
theorem rtN_fits (k : Nat) {n m : Nat} (h : Fits n) : Fits (rtN k n m) := by
  unfold rtN mkN
  split
  · split
    · exact Nat.pow_pos (by decide)
    · exact Nat.lt_of_le_of_lt (Nat.div_le_self _ _) h
  · exact Nat.pow_pos (by decide)
theorem rtD_fits (k : Nat) {n m : Nat} (h : Fits m) : Fits (rtD k n m) := by
  unfold rtD mkD
  split
  · split
    · exact Nat.pow_pos (by decide)
    · exact Nat.lt_of_le_of_lt (Nat.div_le_self _ _) h
  · exact Nat.pow_pos (by decide)
theorem oN_fits (k : Nat) {r : Nat} (j r' j' : Nat) (h : Fits r) : Fits (oN k r j r' j') := rtN_fits _ (doN_fits _ h)
theorem oD_fits (k r j : Nat) {r' : Nat} (j' : Nat) (h : Fits r') : Fits (oD k r j r' j') := rtD_fits _ (doN_fits _ h)
theorem resN_of {n : Nat} (h : Fits n) : resN n = n := if_pos h
theorem resS_of (s : Bool) {n : Nat} (h : Fits n) : resS s n = sgn s n := if_pos h
/-- Where there is no error: nothing went wrong, and the answer is in lowest terms. -/
theorem op_ok {k j j' r r' : Nat} {z z' : Bool} (h : oK k j r' j' = 0) : k = 0 ∧ j = 0 ∧ j' = 0 ∧ 0 < r' ∧ IsLow (iv (z != z') r) r' (oS k z r j z' r' j') (oN k r j r' j') (oD k r j r' j') := by
  unfold oK rtK at h
  by_cases hk : kept (kept k j) j' = 0
  · obtain ⟨h1, h2⟩ := kept_zero.1 hk
    obtain ⟨h3, h4⟩ := kept_zero.1 h1
    subst h2; subst h3; subst h4
    have hr : 0 < r' := by
      rw [if_pos hk] at h
      have e : doN (kept 0 0) r' = r' := rfl
      rw [e] at h
      unfold mkK at h
      split at h
      · cases h
      · omega
    exact ⟨rfl, rfl, rfl, hr, mk_low z r z' r' hr⟩
  · rw [if_neg hk] at h
    exact absurd h hk
/-- The two products where there is no error. -/
theorem cr_zero {k n d n' d' : Nat} (h : crK k n d n' d' = 0) : k = 0 ∧ Fits (n * d') ∧ Fits (n' * d) := by
  unfold crK crK1 at h
  obtain ⟨h1, h2⟩ := kept_zero.1 h
  obtain ⟨h3, h4⟩ := kept_zero.1 h1
  exact ⟨h3, resK_zero.1 h4, resK_zero.1 h2⟩
theorem cr_vals {n d n' d' : Nat} (s s' t t' : Bool) (h1 : Fits (n * d')) (h2 : Fits (n' * d)) :
    iv (crLS 0 s n t' d') (crLN 0 n d') = iv (s != t') (n * d') ∧ iv (crRS 0 n d' s' n' t d) (crRN 0 n d' n' d) = iv (s' != t) (n' * d) := by
  have e1 : crLS 0 s n t' d' = resS (s != t') (n * d') := rfl
  have e2 : crLN 0 n d' = resN (n * d') := rfl
  have e0 : crK1 0 n d' = 0 := by unfold crK1; rw [kept_zero]; exact ⟨rfl, resK_zero.2 h1⟩
  have e3 : crRS 0 n d' s' n' t d = resS (s' != t) (n' * d) := by unfold crRS; rw [e0]; rfl
  have e4 : crRN 0 n d' n' d = resN (n' * d) := by unfold crRN; rw [e0]; rfl
  rw [e1, e2, e3, e4, resN_of h1, resN_of h2, resS_of _ h1, resS_of _ h2, iv_sgn, iv_sgn]
  exact ⟨rfl, rfl⟩
theorem chk_both {a b : Nat} (h : kept a b = 0) : a = 0 ∧ b = 0 := kept_zero.1 h
theorem iv_ff {s : Bool} {n : Nat} : iv (s != false) n = iv s n := by cases s <;> rfl
/-! Add and Sub. -/
def adK (s : Bool) (n : Nat) (t : Bool) (d : Nat) (s' : Bool) (n' : Nat) (t' : Bool) (d' : Nat) (R : Nat) : Nat := oK (crK (kept (chk s n t d) (chk s' n' t' d')) n d n' d') (resK R) (resN (d * d')) (resK (d * d'))
theorem sum_ok {s : Bool} {n : Nat} {t : Bool} {d : Nat} {s' : Bool} {n' : Nat} {t' : Bool} {d' : Nat} {Z : Bool} {R : Nat} (h : adK s n t d s' n' t' d' R = 0) :
    vld s n t d = true ∧ vld s' n' t' d' = true ∧ Fits (n * d') ∧ Fits (n' * d) ∧
    IsLow (iv Z R) (d * d') (oS (crK (kept (chk s n t d) (chk s' n' t' d')) n d n' d') (resS Z R) (resN R) (resK R) (resS (t != t') (d * d')) (resN (d * d')) (resK (d * d'))) (oN (crK (kept (chk s n t d) (chk s' n' t' d')) n d n' d') (resN R) (resK R) (resN (d * d')) (resK (d * d'))) (oD (crK (kept (chk s n t d) (chk s' n' t' d')) n d n' d') (resN R) (resK R) (resN (d * d')) (resK (d * d'))) := by
  unfold adK at h
  obtain ⟨h1, h2, h3, _, hl⟩ := op_ok (r := resN R) (z := resS Z R) (z' := resS (t != t') (d * d')) h
  obtain ⟨h4, h5, h6⟩ := cr_zero h1
  obtain ⟨h7, h8⟩ := chk_both h4
  have f1 := resK_zero.1 h2
  have f2 := resK_zero.1 h3
  have v1 := chk_zero.1 h7
  have v2 := chk_zero.1 h8
  obtain ⟨_, ht, _, _⟩ := vld_spec v1
  obtain ⟨_, ht', _, _⟩ := vld_spec v2
  refine ⟨v1, v2, h5, h6, ?_⟩
  have e1 : iv (resS Z R != resS (t != t') (d * d')) (resN R) = iv Z R := by
    rw [ht, ht', resN_of f1, resS_of _ f1, resS_of _ f2]
    have : sgn (false != false) (d * d') = false := rfl
    rw [this, iv_ff, iv_sgn]
  have e2 : resN (d * d') = d * d' := resN_of f2
  rw [e1] at hl
  have hl2 := hl
  rw [e2] at hl2
  rwa [e2]
end Go.Proofs.YtgoemhcngmpfbaaGreatDoor
