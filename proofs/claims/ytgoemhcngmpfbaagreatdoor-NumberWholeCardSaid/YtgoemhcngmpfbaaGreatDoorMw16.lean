/-
  Stage 8: ratio's Add.
-/
import Derived.Test.YtgoemhcngmpfbaaGreatDoorMw15
import Derived.Test.YtgoemhcngmpfbaaGreatDoorMw08

namespace Go.Proofs.YtgoemhcngmpfbaaGreatDoor
open Go.RowKit Go.Sort
set_option linter.unusedSimpArgs false

/-- What two steps and 'ratio' answer: the first step's result and error, the second's, behind the error k. -/
def opV (k : Nat) (z : Bool) (r j : Nat) (z' : Bool) (r' j' : Nat) : Value :=
  .tuple #[ratV (rtS (kept (kept k j) j') (doS k z) (doN k r) (doS (kept k j) z') (doN (kept k j) r')) (rtN (kept (kept k j) j') (doN k r) (doN (kept k j) r')) false (rtD (kept (kept k j) j') (doN k r) (doN (kept k j) r')), errV (rtK (kept (kept k j) j') (doN (kept k j) r'))]
theorem opV_zero (z : Bool) (r : Nat) (z' : Bool) (r' : Nat) : opV 0 z r 0 z' r' 0 = .tuple #[ratV (mkS z r z' r') (mkN r r') false (mkD r r'), errV (mkK r')] := rfl
theorem opV_err {k j j' : Nat} (h : kept (kept k j) j' ≠ 0) (z : Bool) (r : Nat) (z' : Bool) (r' : Nat) : opV k z r j z' r' j' = .tuple #[ratV false 0 false 0, errV (kept (kept k j) j')] := by
  unfold opV rtS rtN rtD rtK
  simp only [if_neg h]
theorem enters_begin : EntersP Tryz.prog 89 := entersP_of Tryz.func89 (by kernel_rfl) rfl
theorem enters_ratio : EntersP Tryz.prog 91 := entersP_of Tryz.func91 (by kernel_rfl) rfl
/-- What the calls with two ratios hold on their way. -/
structure OpInv (w W : World) (S B k : Nat) (s : Bool) (n : Nat) (t : Bool) (d : Nat) (s' : Bool) (n' : Nat) (t' : Bool) (d' : Nat) : Prop where
  ra : RatAt W S s n t d
  rb : RatAt W (S + 1) s' n' t' d'
  rz : RatAt W (S + 1 + 1) false 0 false 0
  er : ErrAt W B k
  bl : Below S w W
  hB : S + 1 + 1 < B
  sz : B < W.heap.size
theorem OpInv.ste {w W V : World} {S B k j n d n' d' : Nat} {s t s' t' : Bool} (h : OpInv w W S B k s n t d s' n' t' d') (g : Ste W V B j) : OpInv w V S B j s n t d s' n' t' d' :=
  have h1 := h.hB; have h2 := h.sz
  ⟨h.ra.ste g (by omega) (by omega), h.rb.ste g (by omega) (by omega), h.rz.ste g (by omega) (by omega), g.err, g.below S w (by omega) (by omega) h.bl, h1, Nat.lt_of_lt_of_le h2 g.size⟩
theorem OpInv.below {w W V : World} {S B k n d n' d' : Nat} {s t s' t' : Bool} (h : OpInv w W S B k s n t d s' n' t' d') (g : Below W.heap.size W V) : OpInv w V S B k s n t d s' n' t' d' :=
  have h1 := h.hB; have h2 := h.sz
  ⟨h.ra.keep g (by omega), h.rb.keep g (by omega), h.rz.keep g (by omega), h.er.below g, h.bl.trans (g.mono (by omega)), h1, Nat.lt_of_lt_of_le h2 g.size⟩
theorem OpInv.drew {w W : World} {S B k n d n' d' : Nat} {s t s' t' : Bool} (h : OpInv w W S B k s n t d s' n' t' d') : OpInv w W.drew S B k s n t d s' n' t' d' := ⟨h.ra.drew, h.rb.drew, h.rz.drew, h.er.drew, h.bl.drew, h.hB, h.sz⟩
theorem OpInv.but {w W V : World} {S B k c n d n' d' : Nat} {s t s' t' : Bool} (h : OpInv w W S B k s n t d s' n' t' d') (g : But1 W V c) (hc : B < c) : OpInv w V S B k s n t d s' n' t' d' :=
  have h1 := h.hB; have h2 := h.sz
  ⟨h.ra.but g (by omega), h.rb.but g (by omega), h.rz.but g (by omega), h.er.but1 g (by omega), g.2.1 S w (by omega) h.bl, h1, by rw [g.2.2]; exact h2⟩
theorem op_boxes (w : World) (s : Bool) (n : Nat) (t : Bool) (d : Nat) (s' : Bool) (n' : Nat) (t' : Bool) (d' : Nat) (T : TypeId) : RatAt (((w.alloc (boxR s n t d T)).alloc (boxR s' n' t' d' T)).alloc (boxRZ T)) w.heap.size s n t d ∧ RatAt (((w.alloc (boxR s n t d T)).alloc (boxR s' n' t' d' T)).alloc (boxRZ T)) (w.heap.size + 1) s' n' t' d' ∧ RatAt (((w.alloc (boxR s n t d T)).alloc (boxR s' n' t' d' T)).alloc (boxRZ T)) (w.heap.size + 1 + 1) false 0 false 0 ∧ Below w.heap.size w (((w.alloc (boxR s n t d T)).alloc (boxR s' n' t' d' T)).alloc (boxRZ T)) ∧ (((w.alloc (boxR s n t d T)).alloc (boxR s' n' t' d' T)).alloc (boxRZ T)).heap.size = w.heap.size + 1 + 1 + 1 := by
  have z1 : (w.alloc (boxR s n t d T)).heap.size = w.heap.size + 1 := by simp
  have z2 : ((w.alloc (boxR s n t d T)).alloc (boxR s' n' t' d' T)).heap.size = w.heap.size + 1 + 1 := by simp
  have r2 := RatAt.new (w.alloc (boxR s n t d T)) s' n' t' d' T
  have r3 := RatAt.zero ((w.alloc (boxR s n t d T)).alloc (boxR s' n' t' d' T)) T
  rw [z1] at r2
  rw [z2] at r3
  exact ⟨((RatAt.new w s n t d T).alloc (by simp) _).alloc (by omega) _, r2.alloc (by omega) _, r3, ((below_alloc w _).alloc (by simp) _).alloc (by omega) _, by simp⟩
/-- Add's and Sub's answers. -/
def addZ (s : Bool) (n : Nat) (t : Bool) (d : Nat) (s' : Bool) (n' : Nat) (t' : Bool) (d' : Nat) (k : Nat) : Bool := addS (crLS k s n t' d') (crLN k n d') (crRS k n d' s' n' t d) (crRN k n d' n' d)
def addR (s : Bool) (n : Nat) (t : Bool) (d : Nat) (s' : Bool) (n' : Nat) (t' : Bool) (d' : Nat) (k : Nat) : Nat := addN (crLS k s n t' d') (crLN k n d') (crRS k n d' s' n' t d) (crRN k n d' n' d)
def addV (s : Bool) (n : Nat) (t : Bool) (d : Nat) (s' : Bool) (n' : Nat) (t' : Bool) (d' : Nat) : Value :=
  opV (crK (kept (chk s n t d) (chk s' n' t' d')) n d n' d') (resS (addZ s n t d s' n' t' d' (kept (chk s n t d) (chk s' n' t' d'))) (addR s n t d s' n' t' d' (kept (chk s n t d) (chk s' n' t' d')))) (resN (addR s n t d s' n' t' d' (kept (chk s n t d) (chk s' n' t' d')))) (resK (addR s n t d s' n' t' d' (kept (chk s n t d) (chk s' n' t' d')))) (resS (t != t') (d * d')) (resN (d * d')) (resK (d * d'))
set_option maxRecDepth 100000 in
set_option maxHeartbeats 4000000 in
theorem RAdd_run (s : Bool) (n : Nat) (t : Bool) (d : Nat) (s' : Bool) (n' : Nat) (t' : Bool) (d' : Nat) (w : World) (hn : Hid (Fits n)) (hd : Hid (Fits d)) (hn' : Hid (Fits n')) (hd' : Hid (Fits d')) :
    Calls Tryz.prog 54 #[ratV s n t d, ratV s' n' t' d'] w fun e w' => e = .returned (addV s n t d s' n' t' d') ∧ Below w.heap.size w w' := by
  obtain ⟨S, hS⟩ : ∃ S, w.heap.size = S := ⟨_, rfl⟩
  obtain ⟨W, hW⟩ : ∃ W, ((w.alloc (boxR s n t d 27)).alloc (boxR s' n' t' d' 27)).alloc (boxRZ 27) = W := ⟨_, rfl⟩
  have T := op_boxes w s n t d s' n' t' d' 27
  rw [hW, hS] at T
  rw [hS]
  have HT := Lib.hid T
  have hWs := Lib.hid T.2.2.2.2
  clear T
  have HBG := Lib.hid (fun W => begin_run s n t d s' n' t' d' W hn hd hn' hd')
  obtain ⟨k0, hk0⟩ : ∃ k, kept (chk s n t d) (chk s' n' t' d') = k := ⟨_, rfl⟩
  have HV : Hid (addV s n t d s' n' t' d' = opV (crK k0 n d n' d') (resS (addZ s n t d s' n' t' d' k0) (addR s n t d s' n' t' d' k0)) (resN (addR s n t d s' n' t' d' k0)) (resK (addR s n t d s' n' t' d' k0)) (resS (t != t') (d * d')) (resN (d * d')) (resK (d * d'))) := by
    show _ = _
    unfold addV
    rw [hk0]
  rw [hk0] at HBG
  rw [HV.out]
  have HCR := Lib.hid (fun W B (h : Hid (PairAt W B k0 s n t d s' n' t' d')) => cross_run B k0 s n t d s' n' t' d' W h hn hd hn' hd')
  have hf1 : Hid (Fits (crLN k0 n d')) := doN_fits _ (resN_fits _)
  have hf2 : Hid (Fits (crRN k0 n d' n' d)) := doN_fits _ (resN_fits _)
  unfold addZ addR
  clear HV hk0
  generalize crK k0 n d n' d' = k2 at *
  generalize crLS k0 s n t' d' = z1 at *
  generalize crLN k0 n d' = r1 at *
  generalize crRS k0 n d' s' n' t d = z2 at *
  generalize crRN k0 n d' n' d = r2 at *
  have HD1 : Hid (∀ W B, Hid (ErrAt W B k2) → Calls Tryz.prog 39 #[.pointer (some ⟨B, 0, none⟩), fnV 92, intV z1 r1, intV z2 r2] W fun e w' => e = .returned (intV (doS k2 (resS (addS z1 r1 z2 r2) (addN z1 r1 z2 r2))) (doN k2 (resN (addN z1 r1 z2 r2)))) ∧ Ste W w' B (kept k2 (resK (addN z1 r1 z2 r2)))) := fun W B h =>
    do_run _ B k2 _ z1 r1 z2 r2 _ _ W h enters_Add fun W => (Add_run z1 r1 z2 r2 W hf1 hf2).mono fun e w' ⟨he, hw⟩ => ⟨by rw [he, resV_eq], hw⟩
  have hf3 : Hid (Fits (doN k2 (resN (addN z1 r1 z2 r2)))) := doN_fits _ (resN_fits _)
  unfold opV
  generalize resK (addN z1 r1 z2 r2) = j3 at *
  generalize doS k2 (resS (addS z1 r1 z2 r2) (addN z1 r1 z2 r2)) = z3 at *
  generalize doN k2 (resN (addN z1 r1 z2 r2)) = r3 at *
  have HD2 : Hid (∀ W B, Hid (ErrAt W B (kept k2 j3)) → Calls Tryz.prog 39 #[.pointer (some ⟨B, 0, none⟩), fnV 93, intV t d, intV t' d'] W fun e w' => e = .returned (intV (doS (kept k2 j3) (resS (t != t') (d * d'))) (doN (kept k2 j3) (resN (d * d')))) ∧ Ste W w' B (kept (kept k2 j3) (resK (d * d')))) := fun W B h => do_mul B (kept k2 j3) t d t' d' W h hd hd'
  have hf4 : Hid (Fits (doN (kept k2 j3) (resN (d * d')))) := doN_fits _ (resN_fits _)
  generalize resK (d * d') = j4 at *
  generalize doS (kept k2 j3) (resS (t != t') (d * d')) = z4 at *
  generalize doN (kept k2 j3) (resN (d * d')) = r4 at *
  have HR := Lib.hid (fun W B (h : Hid (ErrAt W B (kept (kept k2 j3) j4))) => ratio_run B (kept (kept k2 j3) j4) z3 r3 z4 r4 W h hf3 hf4)
  generalize rtS (kept (kept k2 j3) j4) z3 r3 z4 r4 = z5 at *
  generalize rtN (kept (kept k2 j3) j4) r3 r4 = q5 at *
  generalize rtD (kept (kept k2 j3) j4) r3 r4 = p5 at *
  generalize errV (rtK (kept (kept k2 j3) j4) r4) = v5 at *
  clear hn hd hn' hd'
  go_enter Tryz.func54, Tryz.ntmps54
  go_wp2_with (first | (refine wpList_box_rat rfl (.tmp 0) rfl rfl ?_) | (refine wpList_box_rat rfl (.tmp 1) rfl rfl ?_) | (refine wpList_load_rat rfl (.tmp 2) rfl rfl HT.out.1 ?_) | (refine wpList_load_rat rfl (.tmp 3) rfl rfl HT.out.2.1 ?_))
  refine (HBG.out _).mono ?_
  rintro e w1 ⟨B, rfl, hB, hP, hw1⟩
  have hI1 : OpInv w w1 S B k0 s n t d s' n' t' d' := by
    have hz := hWs.out
    exact ⟨HT.out.1.keep hw1 (by omega), HT.out.2.1.keep hw1 (by omega), HT.out.2.2.1.keep hw1 (by omega), hP.err, HT.out.2.2.2.1.trans (hw1.mono (by omega)), by omega, hP.err.lt⟩
  have HI1 := Lib.hid hI1
  have HP := Lib.hid hP
  clear hI1 hP hw1 hB hW HT hWs HBG
  go_wp2_with fail
  have HCR' := HCR.out _ B HP
  unfold intV at HCR'
  refine HCR'.mono ?_
  rintro e w2 ⟨rfl, hw2⟩
  have hI2 := HI1.out.ste hw2
  have hs2 := hI2.sz
  obtain ⟨Q, hQ⟩ : ∃ Q, w2.heap.size = Q := ⟨_, rfl⟩
  have Y := two_ints w2 z1 r1 z2 r2 25 25
  have hI3 := (hI2.below (below_alloc w2 (boxI z1 r1 25))).below (below_alloc _ (boxI z2 r2 25))
  obtain ⟨wd, hwd⟩ : ∃ wd, (w2.alloc (boxI z1 r1 25)).alloc (boxI z2 r2 25) = wd := ⟨_, rfl⟩
  rw [hwd] at Y hI3
  rw [hQ] at Y hs2
  have HI4 := Lib.hid hI3
  have HX2 := Lib.hid Y.1
  have HX3 := Lib.hid Y.2.1
  have hSQ := hI2.hB
  clear hI2 hI3 Y hw2 HP HI1 HCR HCR'
  go_upto_region 3 with fail
  clear hwd hQ
  refine rg_begin (fun W' => RatAt W' S s n t d ∧ RatAt W' (S + 1) s' n' t' d' ∧ IntAt W' Q z1 r1 ∧ IntAt W' (Q + 1) z2 r2) (by kernel_rfl) ⟨HI4.out.ra.drew, HI4.out.rb.drew, HX2.out.drew, HX3.out.drew⟩ (fun hS => ?_)
  refine rg_take 0 (.pointer (some ⟨B, 0, none⟩)) rfl (by kernel_rfl) (by kernel_rfl) (by kernel_rfl) (fun _ _ _ h => h) rfl (fun w _ => ?_) hS ?_
  · go_simp
  simp only [List.getElem_toArray, List.getElem_cons_zero, List.getElem_cons_succ, Act.put, List.setIfInBounds_toArray, List.set_cons_zero, List.set_cons_succ]
  refine rg_take 1 (.pointer (some ⟨B, 0, none⟩)) rfl (by kernel_rfl) (by kernel_rfl) (by kernel_rfl) (fun _ _ _ h => h) rfl (fun w _ => ?_) hS ?_
  · go_simp
  simp only [List.getElem_toArray, List.getElem_cons_zero, List.getElem_cons_succ, Act.put, List.setIfInBounds_toArray, List.set_cons_zero, List.set_cons_succ]
  refine rg_take 2 (.pointer (some ⟨B, 0, none⟩)) rfl (by kernel_rfl) (by kernel_rfl) (by kernel_rfl) (fun _ _ _ h => h) rfl (fun w _ => ?_) hS ?_
  · go_simp
  simp only [List.getElem_toArray, List.getElem_cons_zero, List.getElem_cons_succ, Act.put, List.setIfInBounds_toArray, List.set_cons_zero, List.set_cons_succ]
  refine rg_take 3 (.pointer (some ⟨B, 0, none⟩)) rfl (by kernel_rfl) (by kernel_rfl) (by kernel_rfl) (fun _ _ _ h => h) rfl (fun w _ => ?_) hS ?_
  · go_simp
  simp only [List.getElem_toArray, List.getElem_cons_zero, List.getElem_cons_succ, Act.put, List.setIfInBounds_toArray, List.set_cons_zero, List.set_cons_succ]
  refine rg_take 4 (intV z1 r1) rfl (by kernel_rfl) (by kernel_rfl) (by kernel_rfl) (fun _ _ _ h => h) rfl (fun w hSw => ld_int (.tmp 7) rfl rfl hSw.2.2.1.o) hS ?_
  simp only [List.getElem_toArray, List.getElem_cons_zero, List.getElem_cons_succ, Act.put, List.setIfInBounds_toArray, List.set_cons_zero, List.set_cons_succ]
  refine rg_take 5 (intV z2 r2) rfl (by kernel_rfl) (by kernel_rfl) (by kernel_rfl) (fun _ _ _ h => h) rfl (fun w hSw => ld_int (.tmp 8) rfl rfl hSw.2.2.2.o) hS ?_
  simp only [List.getElem_toArray, List.getElem_cons_zero, List.getElem_cons_succ, Act.put, List.setIfInBounds_toArray, List.set_cons_zero, List.set_cons_succ]
  refine rg_take 7 (.pointer (some ⟨B, 0, none⟩)) rfl (by kernel_rfl) (by kernel_rfl) (by kernel_rfl) (fun _ _ _ h => h) rfl (fun w _ => ?_) hS ?_
  · go_simp
  simp only [List.getElem_toArray, List.getElem_cons_zero, List.getElem_cons_succ, Act.put, List.setIfInBounds_toArray, List.set_cons_zero, List.set_cons_succ]
  refine rg_take 8 (.pointer (some ⟨B, 0, none⟩)) rfl (by kernel_rfl) (by kernel_rfl) (by kernel_rfl) (fun _ _ _ h => h) rfl (fun w _ => ?_) hS ?_
  · go_simp
  simp only [List.getElem_toArray, List.getElem_cons_zero, List.getElem_cons_succ, Act.put, List.setIfInBounds_toArray, List.set_cons_zero, List.set_cons_succ]
  refine rg_take 9 (.pointer (some ⟨B, 0, none⟩)) rfl (by kernel_rfl) (by kernel_rfl) (by kernel_rfl) (fun _ _ _ h => h) rfl (fun w _ => ?_) hS ?_
  · go_simp
  simp only [List.getElem_toArray, List.getElem_cons_zero, List.getElem_cons_succ, Act.put, List.setIfInBounds_toArray, List.set_cons_zero, List.set_cons_succ]
  refine rg_take 10 (.pointer (some ⟨S, 9, none⟩)) rfl (by kernel_rfl) (by kernel_rfl) (by kernel_rfl) (fun _ _ _ h => h) rfl (fun w _ => ?_) hS ?_
  · go_simp
  simp only [List.getElem_toArray, List.getElem_cons_zero, List.getElem_cons_succ, Act.put, List.setIfInBounds_toArray, List.set_cons_zero, List.set_cons_succ]
  refine rg_take 11 (intV t d) rfl (by kernel_rfl) (by kernel_rfl) (by kernel_rfl) (fun _ _ _ h => h) rfl (fun w hSw => ld_int (.tmp 27) rfl rfl hSw.1.den) hS ?_
  simp only [List.getElem_toArray, List.getElem_cons_zero, List.getElem_cons_succ, Act.put, List.setIfInBounds_toArray, List.set_cons_zero, List.set_cons_succ]
  refine rg_take 12 (.pointer (some ⟨S + 1, 9, none⟩)) rfl (by kernel_rfl) (by kernel_rfl) (by kernel_rfl) (fun _ _ _ h => h) rfl (fun w _ => ?_) hS ?_
  · go_simp
  simp only [List.getElem_toArray, List.getElem_cons_zero, List.getElem_cons_succ, Act.put, List.setIfInBounds_toArray, List.set_cons_zero, List.set_cons_succ]
  refine rg_take 13 (intV t' d') rfl (by kernel_rfl) (by kernel_rfl) (by kernel_rfl) (fun _ _ _ h => h) rfl (fun w hSw => ld_int (.tmp 29) rfl rfl hSw.2.1.den) hS ?_
  simp only [List.getElem_toArray, List.getElem_cons_zero, List.getElem_cons_succ, Act.put, List.setIfInBounds_toArray, List.set_cons_zero, List.set_cons_succ]
  clear hS
  have hI := HI4.out.drew
  have x1 := HX2.out.drew
  have x2 := HX3.out.drew
  have hq : Q + 1 < wd.drew.heap.size := by
    rcases Nat.lt_or_ge (Q + 1) wd.drew.heap.size with h1 | h1
    · exact h1
    · have := x2.sign
      simp [World.cell?, Array.getElem?_eq_none h1] at this
  clear HI4 HX2 HX3
  refine rg_one 6 (by kernel_rfl) (rs_of rfl rfl (wp_call rfl enters_do rfl (HD1.out _ B (Lib.hid hI.er)) (fun w3 hw3 => ⟨⟨(hI.ste hw3).ra, (hI.ste hw3).rb, x1.ste hw3 (by omega) (by omega), x2.ste hw3 (by omega) (by omega)⟩, ?_⟩)))
  have hI5 := hI.ste hw3
  have x3 := x1.ste hw3 (by omega) (by omega)
  have x4 := x2.ste hw3 (by omega) (by omega)
  have hq3 := Nat.lt_of_lt_of_le hq hw3.size
  clear hI x1 x2 hq hw3
  simp only [List.getElem_toArray, List.getElem_cons_zero, List.getElem_cons_succ, Act.put, List.setIfInBounds_toArray, List.set_cons_zero, List.set_cons_succ]
  refine rg_one 14 (by kernel_rfl) (rs_of rfl rfl (wp_call rfl enters_do rfl (HD2.out _ B (Lib.hid hI5.er)) (fun w4 hw4 => ⟨⟨(hI5.ste hw4).ra, (hI5.ste hw4).rb, x3.ste hw4 (by omega) (by omega), x4.ste hw4 (by omega) (by omega)⟩, ?_⟩)))
  have hI6 := hI5.ste hw4
  have x5 := x3.ste hw4 (by omega) (by omega)
  have x6 := x4.ste hw4 (by omega) (by omega)
  have hq4 := Nat.lt_of_lt_of_le hq3 hw4.size
  clear hI5 x3 x4 hq3 hw4
  simp only [List.getElem_toArray, List.getElem_cons_zero, List.getElem_cons_succ, Act.put, List.setIfInBounds_toArray, List.set_cons_zero, List.set_cons_succ]
  refine rg_one 15 (by kernel_rfl) (rs_of rfl rfl (wp_call rfl enters_ratio rfl (HR.out _ B (Lib.hid hI6.er)) (fun w5 hw5 => ⟨⟨(hI6.below hw5).ra, (hI6.below hw5).rb, x5.keep hw5 (by omega), x6.keep hw5 (by omega)⟩, ?_⟩)))
  have hI := hI6.below hw5
  have hS := And.intro hI.ra (And.intro hI.rb (And.intro (x5.keep hw5 (by omega)) (x6.keep hw5 (by omega))))
  clear hI6 x5 x6 hq4 hw5
  simp only [List.getElem_toArray, List.getElem_cons_zero, List.getElem_cons_succ, Act.put, List.setIfInBounds_toArray, List.set_cons_zero, List.set_cons_succ]
  refine rg_take 16 (ratV z5 q5 false p5) rfl (by kernel_rfl) (by kernel_rfl) (by kernel_rfl) (fun _ _ _ h => h) rfl (fun w _ => ?_) hS ?_
  · go_simp
  simp only [List.getElem_toArray, List.getElem_cons_zero, List.getElem_cons_succ, Act.put, List.setIfInBounds_toArray, List.set_cons_zero, List.set_cons_succ]
  refine rg_take 17 (v5) rfl (by kernel_rfl) (by kernel_rfl) (by kernel_rfl) (fun _ _ _ h => h) rfl (fun w _ => ?_) hS ?_
  · go_simp
  simp only [List.getElem_toArray, List.getElem_cons_zero, List.getElem_cons_succ, Act.put, List.setIfInBounds_toArray, List.set_cons_zero, List.set_cons_succ]
  have b5 := st18_but w5 (S + 1 + 1) z5 q5 false p5
  have h9 := hI.hB
  have hQS : S + 1 + 1 < Q := by omega
  have hS2 := And.intro (hS.1.but b5 (by omega)) (And.intro (hS.2.1.but b5 (by omega)) (And.intro (hS.2.2.1.but b5 (by omega)) (hS.2.2.2.but b5 (by omega))))
  refine rg_one 18 (by kernel_rfl) ?_
  refine rs_of rfl rfl ?_
  refine stores_rat (.tmp 4) (.tmp 33) rfl (b := S + 1 + 1) (s := z5) (n := q5) (t := false) (d := p5) rfl rfl hI.rz ⟨hS2, ?_⟩
  clear hS
  have hS := hS2
  simp only [List.getElem_toArray, List.getElem_cons_zero, List.getElem_cons_succ, Act.put, List.setIfInBounds_toArray, List.set_cons_zero, List.set_cons_succ]
  refine rg_take 19 (v5) rfl (by kernel_rfl) (by kernel_rfl) (by kernel_rfl) (fun _ _ _ h => h) rfl (fun w _ => ?_) hS ?_
  · go_simp
  simp only [List.getElem_toArray, List.getElem_cons_zero, List.getElem_cons_succ, Act.put, List.setIfInBounds_toArray, List.set_cons_zero, List.set_cons_succ]
  refine wpAnyH_done (by kernel_rfl) ?_ _
  go_wp2_with fail
  refine bodyPost_ret (v := .tuple #[ratV z5 q5 false p5, v5]) (results_rat rfl rfl rfl (st18_at hI.rz)) rfl ⟨rfl, ?_⟩
  exact b5.2.1 S w (by omega) hI.bl
end Go.Proofs.YtgoemhcngmpfbaaGreatDoor

/-
  Stage 8: ratio's Cmp.
-/
namespace Go.Proofs.YtgoemhcngmpfbaaGreatDoor
open Go.RowKit Go.Sort
set_option linter.unusedSimpArgs false

/-- Cmp's answer. -/
def rcmpK (s : Bool) (n : Nat) (t : Bool) (d : Nat) (s' : Bool) (n' : Nat) (t' : Bool) (d' : Nat) : Nat := crK (kept (chk s n t d) (chk s' n' t' d')) n d n' d'
def rcmpZ (s : Bool) (n : Nat) (t : Bool) (d : Nat) (s' : Bool) (n' : Nat) (t' : Bool) (d' : Nat) : Int :=
  if rcmpK s n t d s' n' t' d' = 0 then cmpS (crLS (kept (chk s n t d) (chk s' n' t' d')) s n t' d') (crLN (kept (chk s n t d) (chk s' n' t' d')) n d') (crRS (kept (chk s n t d) (chk s' n' t' d')) n d' s' n' t d) (crRN (kept (chk s n t d) (chk s' n' t' d')) n d' n' d) else 0
theorem op_boxes2 (w : World) (s : Bool) (n : Nat) (t : Bool) (d : Nat) (s' : Bool) (n' : Nat) (t' : Bool) (d' : Nat) (T : TypeId) : RatAt ((w.alloc (boxR s n t d T)).alloc (boxR s' n' t' d' T)) w.heap.size s n t d ∧ RatAt ((w.alloc (boxR s n t d T)).alloc (boxR s' n' t' d' T)) (w.heap.size + 1) s' n' t' d' ∧ Below w.heap.size w ((w.alloc (boxR s n t d T)).alloc (boxR s' n' t' d' T)) ∧ ((w.alloc (boxR s n t d T)).alloc (boxR s' n' t' d' T)).heap.size = w.heap.size + 1 + 1 := by
  have z1 : (w.alloc (boxR s n t d T)).heap.size = w.heap.size + 1 := by simp
  have r2 := RatAt.new (w.alloc (boxR s n t d T)) s' n' t' d' T
  rw [z1] at r2
  exact ⟨(RatAt.new w s n t d T).alloc (by simp) _, r2, (below_alloc w _).alloc (by simp) _, by simp⟩
end Go.Proofs.YtgoemhcngmpfbaaGreatDoor

/-
  Stage 8: ratio's Trunc and Of.
-/
namespace Go.Proofs.YtgoemhcngmpfbaaGreatDoor
open Go.RowKit Go.Sort
set_option linter.unusedSimpArgs false

/-- Trunc's answer. -/
def trS (s : Bool) (n : Nat) (t : Bool) (d : Nat) : Bool := if vld s n t d then sgn s (n / d) else false
def trN (s : Bool) (n : Nat) (t : Bool) (d : Nat) : Nat := if vld s n t d then n / d else 0
theorem vld_spec {s : Bool} {n : Nat} {t : Bool} {d : Nat} (h : vld s n t d = true) : sgn s n = s ∧ t = false ∧ 0 < d ∧ Nat.gcd n d = 1 := by
  unfold vld at h
  simp only [Bool.and_eq_true, beq_iff_eq, decide_eq_true_eq, Bool.not_eq_true'] at h
  exact ⟨h.1.1.1, h.1.1.2, h.1.2, h.2⟩
theorem tr_boxes (w : World) (s : Bool) (n : Nat) (t : Bool) (d : Nat) (T U : TypeId) : RatAt ((w.alloc (boxR s n t d T)).alloc (boxIZ U)) w.heap.size s n t d ∧ IntAt ((w.alloc (boxR s n t d T)).alloc (boxIZ U)) (w.heap.size + 1) false 0 ∧ Below w.heap.size w ((w.alloc (boxR s n t d T)).alloc (boxIZ U)) ∧ ((w.alloc (boxR s n t d T)).alloc (boxIZ U)).heap.size = w.heap.size + 1 + 1 := by
  have z1 : (w.alloc (boxR s n t d T)).heap.size = w.heap.size + 1 := by simp
  have r2 := IntAt.zero (w.alloc (boxR s n t d T)) U
  rw [z1] at r2
  exact ⟨(RatAt.new w s n t d T).alloc (by simp) _, r2, (below_alloc w _).alloc (by simp) _, by simp⟩
set_option maxRecDepth 100000 in
set_option maxHeartbeats 4000000 in
theorem Trunc_run (s : Bool) (n : Nat) (t : Bool) (d : Nat) (w : World) (hn : Hid (Fits n)) (hd : Hid (Fits d)) :
    Calls Tryz.prog 11 #[ratV s n t d] w fun e w' => e = .returned (.tuple #[intV (trS s n t d) (trN s n t d), errV (chk s n t d)]) ∧ Below w.heap.size w w' := by
  obtain ⟨S, hS⟩ : ∃ S, w.heap.size = S := ⟨_, rfl⟩
  obtain ⟨W, hW⟩ : ∃ W, (w.alloc (boxR s n t d 27)).alloc (boxIZ 25) = W := ⟨_, rfl⟩
  have T := tr_boxes w s n t d 27 25
  rw [hW, hS] at T
  rw [hS]
  have HT := Lib.hid T
  have hWs := Lib.hid T.2.2.2
  clear T
  have HC := Lib.hid (fun W => Check_run s n t d W hn hd)
  have h0 : intV false 0 = .agg #[.bool false, .int .u64 0, .int .u64 0, .int .u64 0, .int .u64 0, .int .u64 0, .int .u64 0, .int .u64 0, .int .u64 0] := intV_small (by decide) false
  by_cases hv : vld s n t d = true
  · have e1 : trS s n t d = sgn s (n / d) := if_pos hv
    have e2 : trN s n t d = n / d := if_pos hv
    have e3 : chk s n t d = 0 := if_pos hv
    obtain ⟨_, rfl, hd0, _⟩ := vld_spec hv
    rw [e1, e2, e3, errV_zero]
    rw [e3, errV_zero] at HC
    have HQ := fun W => quotient_run s n false d W hn hd hd0
    rw [Bool.bne_false] at HQ
    have HQ := Lib.hid HQ
    generalize n / d = q at *
    generalize sgn s q = z at *
    clear e1 e2 e3 hv hd0 hn hd h0
    go_enter Tryz.func11, Tryz.ntmps11
    go_wp2_with (first | (refine wpList_box_rat rfl (.tmp 0) rfl rfl ?_) | (refine wpList_load_rat rfl (.tmp 1) rfl rfl HT.out.1 ?_))
    refine (HC.out _).mono ?_
    rintro e w1 ⟨rfl, hw1⟩
    have hz := hWs.out
    have H1 := Lib.hid (HT.out.1.keep hw1 (by omega))
    have H2 := Lib.hid (HT.out.2.1.keep hw1 (by omega))
    have HB := Lib.hid (HT.out.2.2.1.trans (hw1.mono (by omega)))
    have hs1 : S + 1 + 1 ≤ w1.heap.size := Nat.le_trans (Nat.le_of_eq hz.symm) hw1.size
    clear hw1 HT hW hWs hz HC
    go_wp2_with (first | (refine wpList_load_int rfl (.tmp 11) rfl rfl H1.out.num ?_) | (refine wpList_load_int rfl (.tmp 13) rfl rfl H1.out.den ?_))
    refine (HQ.out _).mono ?_
    rintro e w2 ⟨rfl, hw2⟩
    have H3 := Lib.hid (H2.out.keep hw2 (by omega))
    have HB2 := Lib.hid (HB.out.trans (hw2.mono (by omega)))
    clear hw2 H1 H2 HB HQ
    go_wp2_with (refine wpList_store_int rfl (.tmp 2) (.tmp 16) rfl (b := S + 1) (s := z) (n := q) rfl rfl H3.out ?_)
    refine bodyPost_ret (v := .tuple #[intV z q, .nilIface]) (results_int rfl rfl rfl (st9_at H3.out)) rfl ⟨rfl, ?_⟩
    exact (st9_but w2 (S + 1) z q).2.1 S w (by omega) HB2.out
  · have e1 : trS s n t d = false := if_neg hv
    have e2 : trN s n t d = 0 := if_neg hv
    have e3 : chk s n t d = 8 := if_neg hv
    rw [e1, e2, e3, errV_pos (show (8 : Nat) ≠ 0 by decide)]
    rw [e3, errV_pos (show (8 : Nat) ≠ 0 by decide)] at HC
    clear e1 e2 e3 hv hn hd
    go_enter Tryz.func11, Tryz.ntmps11
    go_wp2_with (first | (refine wpList_box_rat rfl (.tmp 0) rfl rfl ?_) | (refine wpList_load_rat rfl (.tmp 1) rfl rfl HT.out.1 ?_))
    refine (HC.out _).mono ?_
    rintro e w1 ⟨rfl, hw1⟩
    have hz := hWs.out
    have H2 := Lib.hid (HT.out.2.1.keep hw1 (by omega))
    have HB := Lib.hid (HT.out.2.2.1.trans (hw1.mono (by omega)))
    clear hw1 HT hW hWs hz HC
    go_wp2_with (refine wpList_store_int rfl (.tmp 2) (.tmp 9) rfl (b := S + 1) (s := false) (n := 0) rfl h0.symm H2.out ?_)
    refine bodyPost_ret (v := .tuple #[intV false 0, .iface 74 (.int .i64 (8 : Nat))]) (results_int rfl rfl rfl (st9_at H2.out)) rfl ⟨rfl, ?_⟩
    exact (st9_but w1 (S + 1) false 0).2.1 S w (by omega) HB.out
set_option maxRecDepth 100000 in
set_option maxHeartbeats 4000000 in
theorem ROf_run (z : Int) (w : World) (h1 : -9223372036854775808 ≤ z) (h2 : z < 9223372036854775808) :
    Calls Tryz.prog 113 #[.int .i64 z] w fun e w' => e = .returned (ratV (decide (z < 0)) z.natAbs false 1) ∧ Below w.heap.size w w' := by
  have HO1 := Lib.hid (fun W => Of_run z W h1 h2)
  have HO2 := Lib.hid (fun W => Of_run 1 W (by decide) (by decide))
  have hO : intV (decide ((1 : Int) < 0)) (1 : Int).natAbs = intV false 1 := rfl
  rw [hO] at HO2
  obtain ⟨S, hS⟩ : ∃ S, w.heap.size = S := ⟨_, rfl⟩
  have T1 := RatAt.zero w 27
  have T2 := below_alloc w (boxRZ 27)
  have T3 : (w.alloc (boxRZ 27)).heap.size = w.heap.size + 1 := by simp
  obtain ⟨W, hW⟩ : ∃ W, w.alloc (boxRZ 27) = W := ⟨_, rfl⟩
  rw [hW] at T1 T2 T3
  rw [hS] at T1 T2 T3 ⊢
  have HT1 := Lib.hid T1
  have HT2 := Lib.hid T2
  have hz := Lib.hid T3
  generalize decide (z < 0) = s at *
  generalize hn : z.natAbs = n at *
  clear T1 T2 T3 hO h1 h2 hn
  go_enter Tryz.func113, Tryz.ntmps113
  go_wp2_with fail
  refine (HO1.out _).mono ?_
  rintro e w1 ⟨rfl, hw1⟩
  have hzz := hz.out
  have H1 := Lib.hid (HT1.out.keep hw1 (by omega))
  have HB := Lib.hid (HT2.out.trans (hw1.mono (by omega)))
  have hs1 : S + 1 ≤ w1.heap.size := Nat.le_trans (Nat.le_of_eq hzz.symm) hw1.size
  clear hw1 HT1 HT2 hW hz hzz HO1
  go_wp2_with fail
  refine (HO2.out _).mono ?_
  rintro e w2 ⟨rfl, hw2⟩
  have H2 := Lib.hid (H1.out.keep hw2 (by omega))
  have HB2 := Lib.hid (HB.out.trans (hw2.mono (by omega)))
  clear hw2 H1 HB HO2
  go_wp2_with (first | (refine wpList_build_rat rfl (.tmp 4) (.tmp 5) rfl (s := s) (n := n) (t := false) (d := 1) rfl rfl ?_) | (refine wpList_store_rat rfl (.tmp 2) (.tmp 6) rfl (b := S) (s := s) (n := n) (t := false) (d := 1) rfl rfl H2.out ?_))
  refine bodyPost_ret (v := ratV s n false 1) (results_rat1 rfl rfl (st18_at H2.out)) rfl ⟨rfl, ?_⟩
  exact (st18_but w2 S s n false 1).2.1 S w (by omega) HB2.out
end Go.Proofs.YtgoemhcngmpfbaaGreatDoor
