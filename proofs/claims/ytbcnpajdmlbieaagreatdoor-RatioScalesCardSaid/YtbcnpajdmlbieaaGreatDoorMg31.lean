/-
  Stage 8: ratio's Sub.
-/
import Derived.Test.YtbcnpajdmlbieaaGreatDoorMg23

namespace Go.Proofs.YtbcnpajdmlbieaaGreatDoor
open Go.RowKit Go.Sort
set_option linter.unusedSimpArgs false

/-- Sub's answer. -/
def subZ (s : Bool) (n : Nat) (t : Bool) (d : Nat) (s' : Bool) (n' : Nat) (t' : Bool) (d' : Nat) (k : Nat) : Bool := addS (crLS k s n t' d') (crLN k n d') (sgn (!crRS k n d' s' n' t d) (crRN k n d' n' d)) (crRN k n d' n' d)
def subR (s : Bool) (n : Nat) (t : Bool) (d : Nat) (s' : Bool) (n' : Nat) (t' : Bool) (d' : Nat) (k : Nat) : Nat := addN (crLS k s n t' d') (crLN k n d') (sgn (!crRS k n d' s' n' t d) (crRN k n d' n' d)) (crRN k n d' n' d)
def subV (s : Bool) (n : Nat) (t : Bool) (d : Nat) (s' : Bool) (n' : Nat) (t' : Bool) (d' : Nat) : Value :=
  opV (crK (kept (chk s n t d) (chk s' n' t' d')) n d n' d') (resS (subZ s n t d s' n' t' d' (kept (chk s n t d) (chk s' n' t' d'))) (subR s n t d s' n' t' d' (kept (chk s n t d) (chk s' n' t' d')))) (resN (subR s n t d s' n' t' d' (kept (chk s n t d) (chk s' n' t' d')))) (resK (subR s n t d s' n' t' d' (kept (chk s n t d) (chk s' n' t' d')))) (resS (t != t') (d * d')) (resN (d * d')) (resK (d * d'))
set_option maxRecDepth 100000 in
set_option maxHeartbeats 4000000 in
theorem RSub_run (s : Bool) (n : Nat) (t : Bool) (d : Nat) (s' : Bool) (n' : Nat) (t' : Bool) (d' : Nat) (w : World) (hn : Hid (Fits n)) (hd : Hid (Fits d)) (hn' : Hid (Fits n')) (hd' : Hid (Fits d')) :
    Calls Tryz.prog 21 #[ratV s n t d, ratV s' n' t' d'] w fun e w' => e = .returned (subV s n t d s' n' t' d') ∧ Below w.heap.size w w' := by
  obtain ⟨S, hS⟩ : ∃ S, w.heap.size = S := ⟨_, rfl⟩
  obtain ⟨W, hW⟩ : ∃ W, ((w.alloc (boxR s n t d 27)).alloc (boxR s' n' t' d' 27)).alloc (boxRZ 27) = W := ⟨_, rfl⟩
  have T := op_boxes w s n t d s' n' t' d' 27
  rw [hW, hS] at T
  rw [hS]
  have HT := Lib.hid T
  have hWs := Lib.hid T.2.2.2.2
  clear T
  have HBG := Lib.hid (fun W => begin_run s n t d s' n' t' d' W hn hd hn' hd')
  obtain ⟨k0, hk0⟩ : ∃ k, kept (chk s n t d) (chk s' n' t' d') = k := ⟨_, rfl⟩
  have HV : Hid (subV s n t d s' n' t' d' = opV (crK k0 n d n' d') (resS (subZ s n t d s' n' t' d' k0) (subR s n t d s' n' t' d' k0)) (resN (subR s n t d s' n' t' d' k0)) (resK (subR s n t d s' n' t' d' k0)) (resS (t != t') (d * d')) (resN (d * d')) (resK (d * d'))) := by
    show _ = _
    unfold subV
    rw [hk0]
  rw [hk0] at HBG
  rw [HV.out]
  have HCR := Lib.hid (fun W B (h : Hid (PairAt W B k0 s n t d s' n' t' d')) => cross_run B k0 s n t d s' n' t' d' W h hn hd hn' hd')
  have hf1 : Hid (Fits (crLN k0 n d')) := doN_fits _ (resN_fits _)
  have hf2 : Hid (Fits (crRN k0 n d' n' d)) := doN_fits _ (resN_fits _)
  unfold subZ subR
  clear HV hk0
  generalize crK k0 n d n' d' = k2 at *
  generalize crLS k0 s n t' d' = z1 at *
  generalize crLN k0 n d' = r1 at *
  generalize crRS k0 n d' s' n' t d = z2 at *
  generalize crRN k0 n d' n' d = r2 at *
  have HD1 : Hid (∀ W B, Hid (ErrAt W B k2) → Calls Tryz.prog 32 #[.pointer (some ⟨B, 0, none⟩), fnV 54, intV z1 r1, intV z2 r2] W fun e w' => e = .returned (intV (doS k2 (resS (addS z1 r1 (sgn (!z2) r2) r2) (addN z1 r1 (sgn (!z2) r2) r2))) (doN k2 (resN (addN z1 r1 (sgn (!z2) r2) r2)))) ∧ Ste W w' B (kept k2 (resK (addN z1 r1 (sgn (!z2) r2) r2)))) := fun W B h =>
    do_run _ B k2 _ z1 r1 z2 r2 _ _ W h enters_Sub fun W => (Sub_run z1 r1 z2 r2 W hf1 hf2).mono fun e w' ⟨he, hw⟩ => ⟨by rw [he, resV_eq], hw⟩
  have hf3 : Hid (Fits (doN k2 (resN (addN z1 r1 (sgn (!z2) r2) r2)))) := doN_fits _ (resN_fits _)
  unfold opV
  generalize resK (addN z1 r1 (sgn (!z2) r2) r2) = j3 at *
  generalize doS k2 (resS (addS z1 r1 (sgn (!z2) r2) r2) (addN z1 r1 (sgn (!z2) r2) r2)) = z3 at *
  generalize doN k2 (resN (addN z1 r1 (sgn (!z2) r2) r2)) = r3 at *
  have HD2 : Hid (∀ W B, Hid (ErrAt W B (kept k2 j3)) → Calls Tryz.prog 32 #[.pointer (some ⟨B, 0, none⟩), fnV 53, intV t d, intV t' d'] W fun e w' => e = .returned (intV (doS (kept k2 j3) (resS (t != t') (d * d'))) (doN (kept k2 j3) (resN (d * d')))) ∧ Ste W w' B (kept (kept k2 j3) (resK (d * d')))) := fun W B h => do_mul B (kept k2 j3) t d t' d' W h hd hd'
  have hf4 : Hid (Fits (doN (kept k2 j3) (resN (d * d')))) := doN_fits _ (resN_fits _)
  generalize resK (d * d') = j4 at *
  generalize doS (kept k2 j3) (resS (t != t') (d * d')) = z4 at *
  generalize doN (kept k2 j3) (resN (d * d')) = r4 at *
  have HR := Lib.hid (fun W B (h : Hid (ErrAt W B (kept (kept k2 j3) j4))) => ratio_run B (kept (kept k2 j3) j4) z3 r3 z4 r4 W h hf3 hf4)
  generalize rtS (kept (kept k2 j3) j4) z3 r3 z4 r4 = z5 at *
  generalize rtN (kept (kept k2 j3) j4) r3 r4 = q5 at *
  generalize rtD (kept (kept k2 j3) j4) r3 r4 = p5 at *
  generalize errV (rtK (kept (kept k2 j3) j4) r4) = v5 at *
  clear hn hd hn' hd'
  go_enter Tryz.func21, Tryz.ntmps21
  go_wp2_with (first | (refine wpList_box_rat rfl (.tmp 0) rfl rfl ?_) | (refine wpList_box_rat rfl (.tmp 1) rfl rfl ?_) | (refine wpList_load_rat rfl (.tmp 2) rfl rfl HT.out.1 ?_) | (refine wpList_load_rat rfl (.tmp 3) rfl rfl HT.out.2.1 ?_))
  refine (HBG.out _).mono ?_
  rintro e w1 ⟨B, rfl, hB, hP, hw1⟩
  have hI1 : OpInv w w1 S B k0 s n t d s' n' t' d' := by
    have hz := hWs.out
    exact ⟨HT.out.1.keep hw1 (by omega), HT.out.2.1.keep hw1 (by omega), HT.out.2.2.1.keep hw1 (by omega), hP.err, HT.out.2.2.2.1.trans (hw1.mono (by omega)), by omega, hP.err.lt⟩
  have HI1 := Lib.hid hI1
  have HP := Lib.hid hP
  clear hI1 hP hw1 hB hW HT hWs HBG
  go_wp2_with fail
  have HCR' := HCR.out _ B HP
  unfold intV at HCR'
  refine HCR'.mono ?_
  rintro e w2 ⟨rfl, hw2⟩
  have hI2 := HI1.out.ste hw2
  have hs2 := hI2.sz
  obtain ⟨Q, hQ⟩ : ∃ Q, w2.heap.size = Q := ⟨_, rfl⟩
  have Y := two_ints w2 z1 r1 z2 r2 25 25
  have hI3 := (hI2.below (below_alloc w2 (boxI z1 r1 25))).below (below_alloc _ (boxI z2 r2 25))
  obtain ⟨wd, hwd⟩ : ∃ wd, (w2.alloc (boxI z1 r1 25)).alloc (boxI z2 r2 25) = wd := ⟨_, rfl⟩
  rw [hwd] at Y hI3
  rw [hQ] at Y hs2
  have HI4 := Lib.hid hI3
  have HX2 := Lib.hid Y.1
  have HX3 := Lib.hid Y.2.1
  have hSQ := hI2.hB
  clear hI2 hI3 Y hw2 HP HI1 HCR HCR'
  go_upto_region 3 with fail
  clear hwd hQ
  refine rg_begin (fun W' => RatAt W' S s n t d ∧ RatAt W' (S + 1) s' n' t' d' ∧ IntAt W' Q z1 r1 ∧ IntAt W' (Q + 1) z2 r2) (by kernel_rfl) ⟨HI4.out.ra.drew, HI4.out.rb.drew, HX2.out.drew, HX3.out.drew⟩ (fun hS => ?_)
  refine rg_take 0 (.pointer (some ⟨B, 0, none⟩)) rfl (by kernel_rfl) (by kernel_rfl) (by kernel_rfl) (fun _ _ _ h => h) rfl (fun w _ => ?_) hS ?_
  · go_simp
  simp only [List.getElem_toArray, List.getElem_cons_zero, List.getElem_cons_succ, Act.put, List.setIfInBounds_toArray, List.set_cons_zero, List.set_cons_succ]
  refine rg_take 1 (.pointer (some ⟨B, 0, none⟩)) rfl (by kernel_rfl) (by kernel_rfl) (by kernel_rfl) (fun _ _ _ h => h) rfl (fun w _ => ?_) hS ?_
  · go_simp
  simp only [List.getElem_toArray, List.getElem_cons_zero, List.getElem_cons_succ, Act.put, List.setIfInBounds_toArray, List.set_cons_zero, List.set_cons_succ]
  refine rg_take 2 (.pointer (some ⟨B, 0, none⟩)) rfl (by kernel_rfl) (by kernel_rfl) (by kernel_rfl) (fun _ _ _ h => h) rfl (fun w _ => ?_) hS ?_
  · go_simp
  simp only [List.getElem_toArray, List.getElem_cons_zero, List.getElem_cons_succ, Act.put, List.setIfInBounds_toArray, List.set_cons_zero, List.set_cons_succ]
  refine rg_take 3 (.pointer (some ⟨B, 0, none⟩)) rfl (by kernel_rfl) (by kernel_rfl) (by kernel_rfl) (fun _ _ _ h => h) rfl (fun w _ => ?_) hS ?_
  · go_simp
  simp only [List.getElem_toArray, List.getElem_cons_zero, List.getElem_cons_succ, Act.put, List.setIfInBounds_toArray, List.set_cons_zero, List.set_cons_succ]
  refine rg_take 4 (intV z1 r1) rfl (by kernel_rfl) (by kernel_rfl) (by kernel_rfl) (fun _ _ _ h => h) rfl (fun w hSw => ld_int (.tmp 7) rfl rfl hSw.2.2.1.o) hS ?_
  simp only [List.getElem_toArray, List.getElem_cons_zero, List.getElem_cons_succ, Act.put, List.setIfInBounds_toArray, List.set_cons_zero, List.set_cons_succ]
  refine rg_take 5 (intV z2 r2) rfl (by kernel_rfl) (by kernel_rfl) (by kernel_rfl) (fun _ _ _ h => h) rfl (fun w hSw => ld_int (.tmp 8) rfl rfl hSw.2.2.2.o) hS ?_
  simp only [List.getElem_toArray, List.getElem_cons_zero, List.getElem_cons_succ, Act.put, List.setIfInBounds_toArray, List.set_cons_zero, List.set_cons_succ]
  refine rg_take 7 (.pointer (some ⟨B, 0, none⟩)) rfl (by kernel_rfl) (by kernel_rfl) (by kernel_rfl) (fun _ _ _ h => h) rfl (fun w _ => ?_) hS ?_
  · go_simp
  simp only [List.getElem_toArray, List.getElem_cons_zero, List.getElem_cons_succ, Act.put, List.setIfInBounds_toArray, List.set_cons_zero, List.set_cons_succ]
  refine rg_take 8 (.pointer (some ⟨B, 0, none⟩)) rfl (by kernel_rfl) (by kernel_rfl) (by kernel_rfl) (fun _ _ _ h => h) rfl (fun w _ => ?_) hS ?_
  · go_simp
  simp only [List.getElem_toArray, List.getElem_cons_zero, List.getElem_cons_succ, Act.put, List.setIfInBounds_toArray, List.set_cons_zero, List.set_cons_succ]
  refine rg_take 9 (.pointer (some ⟨B, 0, none⟩)) rfl (by kernel_rfl) (by kernel_rfl) (by kernel_rfl) (fun _ _ _ h => h) rfl (fun w _ => ?_) hS ?_
  · go_simp
  simp only [List.getElem_toArray, List.getElem_cons_zero, List.getElem_cons_succ, Act.put, List.setIfInBounds_toArray, List.set_cons_zero, List.set_cons_succ]
  refine rg_take 10 (.pointer (some ⟨S, 9, none⟩)) rfl (by kernel_rfl) (by kernel_rfl) (by kernel_rfl) (fun _ _ _ h => h) rfl (fun w _ => ?_) hS ?_
  · go_simp
  simp only [List.getElem_toArray, List.getElem_cons_zero, List.getElem_cons_succ, Act.put, List.setIfInBounds_toArray, List.set_cons_zero, List.set_cons_succ]
  refine rg_take 11 (intV t d) rfl (by kernel_rfl) (by kernel_rfl) (by kernel_rfl) (fun _ _ _ h => h) rfl (fun w hSw => ld_int (.tmp 27) rfl rfl hSw.1.den) hS ?_
  simp only [List.getElem_toArray, List.getElem_cons_zero, List.getElem_cons_succ, Act.put, List.setIfInBounds_toArray, List.set_cons_zero, List.set_cons_succ]
  refine rg_take 12 (.pointer (some ⟨S + 1, 9, none⟩)) rfl (by kernel_rfl) (by kernel_rfl) (by kernel_rfl) (fun _ _ _ h => h) rfl (fun w _ => ?_) hS ?_
  · go_simp
  simp only [List.getElem_toArray, List.getElem_cons_zero, List.getElem_cons_succ, Act.put, List.setIfInBounds_toArray, List.set_cons_zero, List.set_cons_succ]
  refine rg_take 13 (intV t' d') rfl (by kernel_rfl) (by kernel_rfl) (by kernel_rfl) (fun _ _ _ h => h) rfl (fun w hSw => ld_int (.tmp 29) rfl rfl hSw.2.1.den) hS ?_
  simp only [List.getElem_toArray, List.getElem_cons_zero, List.getElem_cons_succ, Act.put, List.setIfInBounds_toArray, List.set_cons_zero, List.set_cons_succ]
  clear hS
  have hI := HI4.out.drew
  have x1 := HX2.out.drew
  have x2 := HX3.out.drew
  have hq : Q + 1 < wd.drew.heap.size := by
    rcases Nat.lt_or_ge (Q + 1) wd.drew.heap.size with h1 | h1
    · exact h1
    · have := x2.sign
      simp [World.cell?, Array.getElem?_eq_none h1] at this
  clear HI4 HX2 HX3
  refine rg_one 6 (by kernel_rfl) (rs_of rfl rfl (wp_call rfl enters_do rfl (HD1.out _ B (Lib.hid hI.er)) (fun w3 hw3 => ⟨⟨(hI.ste hw3).ra, (hI.ste hw3).rb, x1.ste hw3 (by omega) (by omega), x2.ste hw3 (by omega) (by omega)⟩, ?_⟩)))
  have hI5 := hI.ste hw3
  have x3 := x1.ste hw3 (by omega) (by omega)
  have x4 := x2.ste hw3 (by omega) (by omega)
  have hq3 := Nat.lt_of_lt_of_le hq hw3.size
  clear hI x1 x2 hq hw3
  simp only [List.getElem_toArray, List.getElem_cons_zero, List.getElem_cons_succ, Act.put, List.setIfInBounds_toArray, List.set_cons_zero, List.set_cons_succ]
  refine rg_one 14 (by kernel_rfl) (rs_of rfl rfl (wp_call rfl enters_do rfl (HD2.out _ B (Lib.hid hI5.er)) (fun w4 hw4 => ⟨⟨(hI5.ste hw4).ra, (hI5.ste hw4).rb, x3.ste hw4 (by omega) (by omega), x4.ste hw4 (by omega) (by omega)⟩, ?_⟩)))
  have hI6 := hI5.ste hw4
  have x5 := x3.ste hw4 (by omega) (by omega)
  have x6 := x4.ste hw4 (by omega) (by omega)
  have hq4 := Nat.lt_of_lt_of_le hq3 hw4.size
  clear hI5 x3 x4 hq3 hw4
  simp only [List.getElem_toArray, List.getElem_cons_zero, List.getElem_cons_succ, Act.put, List.setIfInBounds_toArray, List.set_cons_zero, List.set_cons_succ]
  refine rg_one 15 (by kernel_rfl) (rs_of rfl rfl (wp_call rfl enters_ratio rfl (HR.out _ B (Lib.hid hI6.er)) (fun w5 hw5 => ⟨⟨(hI6.below hw5).ra, (hI6.below hw5).rb, x5.keep hw5 (by omega), x6.keep hw5 (by omega)⟩, ?_⟩)))
  have hI := hI6.below hw5
  have hS := And.intro hI.ra (And.intro hI.rb (And.intro (x5.keep hw5 (by omega)) (x6.keep hw5 (by omega))))
  clear hI6 x5 x6 hq4 hw5
  simp only [List.getElem_toArray, List.getElem_cons_zero, List.getElem_cons_succ, Act.put, List.setIfInBounds_toArray, List.set_cons_zero, List.set_cons_succ]
  refine rg_take 16 (ratV z5 q5 false p5) rfl (by kernel_rfl) (by kernel_rfl) (by kernel_rfl) (fun _ _ _ h => h) rfl (fun w _ => ?_) hS ?_
  · go_simp
  simp only [List.getElem_toArray, List.getElem_cons_zero, List.getElem_cons_succ, Act.put, List.setIfInBounds_toArray, List.set_cons_zero, List.set_cons_succ]
  refine rg_take 17 (v5) rfl (by kernel_rfl) (by kernel_rfl) (by kernel_rfl) (fun _ _ _ h => h) rfl (fun w _ => ?_) hS ?_
  · go_simp
  simp only [List.getElem_toArray, List.getElem_cons_zero, List.getElem_cons_succ, Act.put, List.setIfInBounds_toArray, List.set_cons_zero, List.set_cons_succ]
  have b5 := st18_but w5 (S + 1 + 1) z5 q5 false p5
  have h9 := hI.hB
  have hQS : S + 1 + 1 < Q := by omega
  have hS2 := And.intro (hS.1.but b5 (by omega)) (And.intro (hS.2.1.but b5 (by omega)) (And.intro (hS.2.2.1.but b5 (by omega)) (hS.2.2.2.but b5 (by omega))))
  refine rg_one 18 (by kernel_rfl) ?_
  refine rs_of rfl rfl ?_
  refine stores_rat (.tmp 4) (.tmp 33) rfl (b := S + 1 + 1) (s := z5) (n := q5) (t := false) (d := p5) rfl rfl hI.rz ⟨hS2, ?_⟩
  clear hS
  have hS := hS2
  simp only [List.getElem_toArray, List.getElem_cons_zero, List.getElem_cons_succ, Act.put, List.setIfInBounds_toArray, List.set_cons_zero, List.set_cons_succ]
  refine rg_take 19 (v5) rfl (by kernel_rfl) (by kernel_rfl) (by kernel_rfl) (fun _ _ _ h => h) rfl (fun w _ => ?_) hS ?_
  · go_simp
  simp only [List.getElem_toArray, List.getElem_cons_zero, List.getElem_cons_succ, Act.put, List.setIfInBounds_toArray, List.set_cons_zero, List.set_cons_succ]
  refine wpAnyH_done (by kernel_rfl) ?_ _
  go_wp2_with fail
  refine bodyPost_ret (v := .tuple #[ratV z5 q5 false p5, v5]) (results_rat rfl rfl rfl (st18_at hI.rz)) rfl ⟨rfl, ?_⟩
  exact b5.2.1 S w (by omega) hI.bl
end Go.Proofs.YtbcnpajdmlbieaaGreatDoor

/-
  Stage 8: ratio's Mul.
-/
namespace Go.Proofs.YtbcnpajdmlbieaaGreatDoor
open Go.RowKit Go.Sort
set_option linter.unusedSimpArgs false

/-- Mul's and Quo's answers. -/
def mulV (s : Bool) (n : Nat) (t : Bool) (d : Nat) (s' : Bool) (n' : Nat) (t' : Bool) (d' : Nat) : Value :=
  opV (kept (chk s n t d) (chk s' n' t' d')) (resS (s != s') (n * n')) (resN (n * n')) (resK (n * n')) (resS (t != t') (d * d')) (resN (d * d')) (resK (d * d'))
def quoV (s : Bool) (n : Nat) (t : Bool) (d : Nat) (s' : Bool) (n' : Nat) (t' : Bool) (d' : Nat) : Value :=
  opV (kept (kept (chk s n t d) (chk s' n' t' d')) (if n' = 0 then 10 else 0)) (resS (s != t') (n * d')) (resN (n * d')) (resK (n * d')) (resS (t != s') (d * n')) (resN (d * n')) (resK (d * n'))
set_option maxRecDepth 100000 in
set_option maxHeartbeats 4000000 in
theorem RMul_run (s : Bool) (n : Nat) (t : Bool) (d : Nat) (s' : Bool) (n' : Nat) (t' : Bool) (d' : Nat) (w : World) (hn : Hid (Fits n)) (hd : Hid (Fits d)) (hn' : Hid (Fits n')) (hd' : Hid (Fits d')) :
    Calls Tryz.prog 22 #[ratV s n t d, ratV s' n' t' d'] w fun e w' => e = .returned (mulV s n t d s' n' t' d') ∧ Below w.heap.size w w' := by
  obtain ⟨S, hS⟩ : ∃ S, w.heap.size = S := ⟨_, rfl⟩
  obtain ⟨W, hW⟩ : ∃ W, ((w.alloc (boxR s n t d 27)).alloc (boxR s' n' t' d' 27)).alloc (boxRZ 27) = W := ⟨_, rfl⟩
  have T := op_boxes w s n t d s' n' t' d' 27
  rw [hW, hS] at T
  rw [hS]
  have HT := Lib.hid T
  have hWs := Lib.hid T.2.2.2.2
  clear T
  have HBG := Lib.hid (fun W => begin_run s n t d s' n' t' d' W hn hd hn' hd')
  unfold mulV
  generalize kept (chk s n t d) (chk s' n' t' d') = k0 at *
  have HD1 : Hid (∀ W B, Hid (ErrAt W B k0) → Calls Tryz.prog 32 #[.pointer (some ⟨B, 0, none⟩), fnV 53, intV s n, intV s' n'] W fun e w' => e = .returned (intV (doS k0 (resS (s != s') (n * n'))) (doN k0 (resN (n * n')))) ∧ Ste W w' B (kept k0 (resK (n * n')))) := fun W B h => do_mul B k0 s n s' n' W h hn hn'
  have hf3 : Hid (Fits (doN k0 (resN (n * n')))) := doN_fits _ (resN_fits _)
  unfold opV
  generalize resK (n * n') = j3 at *
  generalize doS k0 (resS (s != s') (n * n')) = z3 at *
  generalize doN k0 (resN (n * n')) = r3 at *
  have HD2 : Hid (∀ W B, Hid (ErrAt W B (kept k0 j3)) → Calls Tryz.prog 32 #[.pointer (some ⟨B, 0, none⟩), fnV 53, intV t d, intV t' d'] W fun e w' => e = .returned (intV (doS (kept k0 j3) (resS (t != t') (d * d'))) (doN (kept k0 j3) (resN (d * d')))) ∧ Ste W w' B (kept (kept k0 j3) (resK (d * d')))) := fun W B h => do_mul B (kept k0 j3) t d t' d' W h hd hd'
  have hf4 : Hid (Fits (doN (kept k0 j3) (resN (d * d')))) := doN_fits _ (resN_fits _)
  generalize resK (d * d') = j4 at *
  generalize doS (kept k0 j3) (resS (t != t') (d * d')) = z4 at *
  generalize doN (kept k0 j3) (resN (d * d')) = r4 at *
  have HR := Lib.hid (fun W B (h : Hid (ErrAt W B (kept (kept k0 j3) j4))) => ratio_run B (kept (kept k0 j3) j4) z3 r3 z4 r4 W h hf3 hf4)
  generalize rtS (kept (kept k0 j3) j4) z3 r3 z4 r4 = z5 at *
  generalize rtN (kept (kept k0 j3) j4) r3 r4 = q5 at *
  generalize rtD (kept (kept k0 j3) j4) r3 r4 = p5 at *
  generalize errV (rtK (kept (kept k0 j3) j4) r4) = v5 at *
  clear hn hd hn' hd'
  go_enter Tryz.func22, Tryz.ntmps22
  go_wp2_with (first | (refine wpList_box_rat rfl (.tmp 0) rfl rfl ?_) | (refine wpList_box_rat rfl (.tmp 1) rfl rfl ?_) | (refine wpList_load_rat rfl (.tmp 2) rfl rfl HT.out.1 ?_) | (refine wpList_load_rat rfl (.tmp 3) rfl rfl HT.out.2.1 ?_))
  refine (HBG.out _).mono ?_
  rintro e w1 ⟨B, rfl, hB, hP, hw1⟩
  have hI1 : OpInv w w1 S B k0 s n t d s' n' t' d' := by
    have hz := hWs.out
    exact ⟨HT.out.1.keep hw1 (by omega), HT.out.2.1.keep hw1 (by omega), HT.out.2.2.1.keep hw1 (by omega), hP.err, HT.out.2.2.2.1.trans (hw1.mono (by omega)), by omega, hP.err.lt⟩
  have hSB := hI1.hB
  have HI4 := Lib.hid hI1
  clear hI1 hP hw1 hB hW HT hWs HBG
  go_wp2_with fail
  refine rg_begin (fun W' => RatAt W' S s n t d ∧ RatAt W' (S + 1) s' n' t' d') (by kernel_rfl) ⟨HI4.out.ra.drew, HI4.out.rb.drew⟩ (fun hS => ?_)
  refine rg_take 0 (.pointer (some ⟨B, 0, none⟩)) rfl (by kernel_rfl) (by kernel_rfl) (by kernel_rfl) (fun _ _ _ h => h) rfl (fun w _ => ?_) hS ?_
  · go_simp
  simp only [List.getElem_toArray, List.getElem_cons_zero, List.getElem_cons_succ, Act.put, List.setIfInBounds_toArray, List.set_cons_zero, List.set_cons_succ]
  refine rg_take 1 (.pointer (some ⟨B, 0, none⟩)) rfl (by kernel_rfl) (by kernel_rfl) (by kernel_rfl) (fun _ _ _ h => h) rfl (fun w _ => ?_) hS ?_
  · go_simp
  simp only [List.getElem_toArray, List.getElem_cons_zero, List.getElem_cons_succ, Act.put, List.setIfInBounds_toArray, List.set_cons_zero, List.set_cons_succ]
  refine rg_take 2 (.pointer (some ⟨B, 0, none⟩)) rfl (by kernel_rfl) (by kernel_rfl) (by kernel_rfl) (fun _ _ _ h => h) rfl (fun w _ => ?_) hS ?_
  · go_simp
  simp only [List.getElem_toArray, List.getElem_cons_zero, List.getElem_cons_succ, Act.put, List.setIfInBounds_toArray, List.set_cons_zero, List.set_cons_succ]
  refine rg_take 3 (.pointer (some ⟨B, 0, none⟩)) rfl (by kernel_rfl) (by kernel_rfl) (by kernel_rfl) (fun _ _ _ h => h) rfl (fun w _ => ?_) hS ?_
  · go_simp
  simp only [List.getElem_toArray, List.getElem_cons_zero, List.getElem_cons_succ, Act.put, List.setIfInBounds_toArray, List.set_cons_zero, List.set_cons_succ]
  refine rg_take 4 (.pointer (some ⟨S, 0, none⟩)) rfl (by kernel_rfl) (by kernel_rfl) (by kernel_rfl) (fun _ _ _ h => h) rfl (fun w _ => ?_) hS ?_
  · go_simp
  simp only [List.getElem_toArray, List.getElem_cons_zero, List.getElem_cons_succ, Act.put, List.setIfInBounds_toArray, List.set_cons_zero, List.set_cons_succ]
  refine rg_take 5 (intV s n) rfl (by kernel_rfl) (by kernel_rfl) (by kernel_rfl) (fun _ _ _ h => h) rfl (fun w hSw => ld_int (.tmp 14) rfl rfl hSw.1.num) hS ?_
  simp only [List.getElem_toArray, List.getElem_cons_zero, List.getElem_cons_succ, Act.put, List.setIfInBounds_toArray, List.set_cons_zero, List.set_cons_succ]
  refine rg_take 6 (.pointer (some ⟨S + 1, 0, none⟩)) rfl (by kernel_rfl) (by kernel_rfl) (by kernel_rfl) (fun _ _ _ h => h) rfl (fun w _ => ?_) hS ?_
  · go_simp
  simp only [List.getElem_toArray, List.getElem_cons_zero, List.getElem_cons_succ, Act.put, List.setIfInBounds_toArray, List.set_cons_zero, List.set_cons_succ]
  refine rg_take 7 (intV s' n') rfl (by kernel_rfl) (by kernel_rfl) (by kernel_rfl) (fun _ _ _ h => h) rfl (fun w hSw => ld_int (.tmp 16) rfl rfl hSw.2.num) hS ?_
  simp only [List.getElem_toArray, List.getElem_cons_zero, List.getElem_cons_succ, Act.put, List.setIfInBounds_toArray, List.set_cons_zero, List.set_cons_succ]
  refine rg_take 9 (.pointer (some ⟨B, 0, none⟩)) rfl (by kernel_rfl) (by kernel_rfl) (by kernel_rfl) (fun _ _ _ h => h) rfl (fun w _ => ?_) hS ?_
  · go_simp
  simp only [List.getElem_toArray, List.getElem_cons_zero, List.getElem_cons_succ, Act.put, List.setIfInBounds_toArray, List.set_cons_zero, List.set_cons_succ]
  refine rg_take 10 (.pointer (some ⟨B, 0, none⟩)) rfl (by kernel_rfl) (by kernel_rfl) (by kernel_rfl) (fun _ _ _ h => h) rfl (fun w _ => ?_) hS ?_
  · go_simp
  simp only [List.getElem_toArray, List.getElem_cons_zero, List.getElem_cons_succ, Act.put, List.setIfInBounds_toArray, List.set_cons_zero, List.set_cons_succ]
  refine rg_take 11 (.pointer (some ⟨B, 0, none⟩)) rfl (by kernel_rfl) (by kernel_rfl) (by kernel_rfl) (fun _ _ _ h => h) rfl (fun w _ => ?_) hS ?_
  · go_simp
  simp only [List.getElem_toArray, List.getElem_cons_zero, List.getElem_cons_succ, Act.put, List.setIfInBounds_toArray, List.set_cons_zero, List.set_cons_succ]
  refine rg_take 12 (.pointer (some ⟨S, 9, none⟩)) rfl (by kernel_rfl) (by kernel_rfl) (by kernel_rfl) (fun _ _ _ h => h) rfl (fun w _ => ?_) hS ?_
  · go_simp
  simp only [List.getElem_toArray, List.getElem_cons_zero, List.getElem_cons_succ, Act.put, List.setIfInBounds_toArray, List.set_cons_zero, List.set_cons_succ]
  refine rg_take 13 (intV t d) rfl (by kernel_rfl) (by kernel_rfl) (by kernel_rfl) (fun _ _ _ h => h) rfl (fun w hSw => ld_int (.tmp 22) rfl rfl hSw.1.den) hS ?_
  simp only [List.getElem_toArray, List.getElem_cons_zero, List.getElem_cons_succ, Act.put, List.setIfInBounds_toArray, List.set_cons_zero, List.set_cons_succ]
  refine rg_take 14 (.pointer (some ⟨S + 1, 9, none⟩)) rfl (by kernel_rfl) (by kernel_rfl) (by kernel_rfl) (fun _ _ _ h => h) rfl (fun w _ => ?_) hS ?_
  · go_simp
  simp only [List.getElem_toArray, List.getElem_cons_zero, List.getElem_cons_succ, Act.put, List.setIfInBounds_toArray, List.set_cons_zero, List.set_cons_succ]
  refine rg_take 15 (intV t' d') rfl (by kernel_rfl) (by kernel_rfl) (by kernel_rfl) (fun _ _ _ h => h) rfl (fun w hSw => ld_int (.tmp 24) rfl rfl hSw.2.den) hS ?_
  simp only [List.getElem_toArray, List.getElem_cons_zero, List.getElem_cons_succ, Act.put, List.setIfInBounds_toArray, List.set_cons_zero, List.set_cons_succ]
  clear hS
  have hI := HI4.out.drew
  clear HI4
  refine rg_one 8 (by kernel_rfl) (rs_of rfl rfl (wp_call rfl enters_do rfl (HD1.out _ B (Lib.hid hI.er)) (fun w3 hw3 => ⟨⟨(hI.ste hw3).ra, (hI.ste hw3).rb⟩, ?_⟩)))
  have hI5 := hI.ste hw3
  clear hI hw3
  simp only [List.getElem_toArray, List.getElem_cons_zero, List.getElem_cons_succ, Act.put, List.setIfInBounds_toArray, List.set_cons_zero, List.set_cons_succ]
  refine rg_one 16 (by kernel_rfl) (rs_of rfl rfl (wp_call rfl enters_do rfl (HD2.out _ B (Lib.hid hI5.er)) (fun w4 hw4 => ⟨⟨(hI5.ste hw4).ra, (hI5.ste hw4).rb⟩, ?_⟩)))
  have hI6 := hI5.ste hw4
  clear hI5 hw4
  simp only [List.getElem_toArray, List.getElem_cons_zero, List.getElem_cons_succ, Act.put, List.setIfInBounds_toArray, List.set_cons_zero, List.set_cons_succ]
  refine rg_one 17 (by kernel_rfl) (rs_of rfl rfl (wp_call rfl enters_ratio rfl (HR.out _ B (Lib.hid hI6.er)) (fun w5 hw5 => ⟨⟨(hI6.below hw5).ra, (hI6.below hw5).rb⟩, ?_⟩)))
  have hI := hI6.below hw5
  have hS := And.intro hI.ra hI.rb
  clear hI6 hw5
  simp only [List.getElem_toArray, List.getElem_cons_zero, List.getElem_cons_succ, Act.put, List.setIfInBounds_toArray, List.set_cons_zero, List.set_cons_succ]
  refine rg_take 18 (ratV z5 q5 false p5) rfl (by kernel_rfl) (by kernel_rfl) (by kernel_rfl) (fun _ _ _ h => h) rfl (fun w _ => ?_) hS ?_
  · go_simp
  simp only [List.getElem_toArray, List.getElem_cons_zero, List.getElem_cons_succ, Act.put, List.setIfInBounds_toArray, List.set_cons_zero, List.set_cons_succ]
  refine rg_take 19 (v5) rfl (by kernel_rfl) (by kernel_rfl) (by kernel_rfl) (fun _ _ _ h => h) rfl (fun w _ => ?_) hS ?_
  · go_simp
  simp only [List.getElem_toArray, List.getElem_cons_zero, List.getElem_cons_succ, Act.put, List.setIfInBounds_toArray, List.set_cons_zero, List.set_cons_succ]
  have b5 := st18_but w5 (S + 1 + 1) z5 q5 false p5
  have hS2 := And.intro (hS.1.but b5 (by omega)) (hS.2.but b5 (by omega))
  refine rg_one 20 (by kernel_rfl) ?_
  refine rs_of rfl rfl ?_
  refine stores_rat (.tmp 4) (.tmp 28) rfl (b := S + 1 + 1) (s := z5) (n := q5) (t := false) (d := p5) rfl rfl hI.rz ⟨hS2, ?_⟩
  clear hS
  have hS := hS2
  simp only [List.getElem_toArray, List.getElem_cons_zero, List.getElem_cons_succ, Act.put, List.setIfInBounds_toArray, List.set_cons_zero, List.set_cons_succ]
  refine rg_take 21 (v5) rfl (by kernel_rfl) (by kernel_rfl) (by kernel_rfl) (fun _ _ _ h => h) rfl (fun w _ => ?_) hS ?_
  · go_simp
  simp only [List.getElem_toArray, List.getElem_cons_zero, List.getElem_cons_succ, Act.put, List.setIfInBounds_toArray, List.set_cons_zero, List.set_cons_succ]
  refine wpAnyH_done (by kernel_rfl) ?_ _
  go_wp2_with fail
  refine bodyPost_ret (v := .tuple #[ratV z5 q5 false p5, v5]) (results_rat rfl rfl rfl (st18_at hI.rz)) rfl ⟨rfl, ?_⟩
  exact b5.2.1 S w (by omega) hI.bl
end Go.Proofs.YtbcnpajdmlbieaaGreatDoor
