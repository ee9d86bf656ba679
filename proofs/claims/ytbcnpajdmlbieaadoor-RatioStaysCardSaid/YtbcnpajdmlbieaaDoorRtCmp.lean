/-
  Stage 8: ratio's Cmp.
-/
import Derived.Test.YtbcnpajdmlbieaaDoorRtAdd
namespace Go.Proofs.YtbcnpajdmlbieaaDoor
open Go.RowKit Go.Sort
set_option linter.unusedSimpArgs false

/-- Cmp's answer. -/
def rcmpK (s : Bool) (n : Nat) (t : Bool) (d : Nat) (s' : Bool) (n' : Nat) (t' : Bool) (d' : Nat) : Nat := crK (kept (chk s n t d) (chk s' n' t' d')) n d n' d'
def rcmpZ (s : Bool) (n : Nat) (t : Bool) (d : Nat) (s' : Bool) (n' : Nat) (t' : Bool) (d' : Nat) : Int :=
  if rcmpK s n t d s' n' t' d' = 0 then cmpS (crLS (kept (chk s n t d) (chk s' n' t' d')) s n t' d') (crLN (kept (chk s n t d) (chk s' n' t' d')) n d') (crRS (kept (chk s n t d) (chk s' n' t' d')) n d' s' n' t d) (crRN (kept (chk s n t d) (chk s' n' t' d')) n d' n' d) else 0
theorem op_boxes2 (w : World) (s : Bool) (n : Nat) (t : Bool) (d : Nat) (s' : Bool) (n' : Nat) (t' : Bool) (d' : Nat) (T : TypeId) : RatAt ((w.alloc (boxR s n t d T)).alloc (boxR s' n' t' d' T)) w.heap.size s n t d ∧ RatAt ((w.alloc (boxR s n t d T)).alloc (boxR s' n' t' d' T)) (w.heap.size + 1) s' n' t' d' ∧ Below w.heap.size w ((w.alloc (boxR s n t d T)).alloc (boxR s' n' t' d' T)) ∧ ((w.alloc (boxR s n t d T)).alloc (boxR s' n' t' d' T)).heap.size = w.heap.size + 1 + 1 := by
  have z1 : (w.alloc (boxR s n t d T)).heap.size = w.heap.size + 1 := by simp
  have r2 := RatAt.new (w.alloc (boxR s n t d T)) s' n' t' d' T
  rw [z1] at r2
  exact ⟨(RatAt.new w s n t d T).alloc (by simp) _, r2, (below_alloc w _).alloc (by simp) _, by simp⟩
set_option maxRecDepth 100000 in
set_option maxHeartbeats 4000000 in
theorem RCmp_run (s : Bool) (n : Nat) (t : Bool) (d : Nat) (s' : Bool) (n' : Nat) (t' : Bool) (d' : Nat) (w : World) (hn : Hid (Fits n)) (hd : Hid (Fits d)) (hn' : Hid (Fits n')) (hd' : Hid (Fits d')) :
    Calls Tryd.prog 11 #[ratV s n t d, ratV s' n' t' d'] w fun e w' => e = .returned (.tuple #[.int .i64 (rcmpZ s n t d s' n' t' d'), errV (rcmpK s n t d s' n' t' d')]) ∧ Below w.heap.size w w' := by
  obtain ⟨S, hS⟩ : ∃ S, w.heap.size = S := ⟨_, rfl⟩
  obtain ⟨W, hW⟩ : ∃ W, (w.alloc (boxR s n t d 27)).alloc (boxR s' n' t' d' 27) = W := ⟨_, rfl⟩
  have T := op_boxes2 w s n t d s' n' t' d' 27
  rw [hW, hS] at T
  rw [hS]
  have HT := Lib.hid T
  have hWs := Lib.hid T.2.2.2
  clear T
  have HBG := Lib.hid (fun W => begin_run s n t d s' n' t' d' W hn hd hn' hd')
  unfold rcmpZ rcmpK
  generalize kept (chk s n t d) (chk s' n' t' d') = k0 at *
  have HCR := Lib.hid (fun W B (h : Hid (PairAt W B k0 s n t d s' n' t' d')) => cross_run B k0 s n t d s' n' t' d' W h hn hd hn' hd')
  have hf1 : Hid (Fits (crLN k0 n d')) := doN_fits _ (resN_fits _)
  have hf2 : Hid (Fits (crRN k0 n d' n' d)) := doN_fits _ (resN_fits _)
  generalize crK k0 n d n' d' = k2 at *
  generalize crLS k0 s n t' d' = z1 at *
  generalize crLN k0 n d' = r1 at *
  generalize crRS k0 n d' s' n' t d = z2 at *
  generalize crRN k0 n d' n' d = r2 at *
  have HCP := Lib.hid (fun W => Cmp_run z1 r1 z2 r2 _ W hf1 hf2 (Lib.hid rfl))
  generalize cmpS z1 r1 z2 r2 = c at *
  obtain ⟨zz, hzz⟩ : ∃ zz, (if k2 = 0 then c else 0) = zz := ⟨_, rfl⟩
  rw [hzz]
  have HZZ := Lib.hid hzz
  clear hn hd hn' hd' hf1 hf2 hzz
  go_enter Tryd.func11, Tryd.ntmps11
  go_wp2_with (first | (refine wpList_box_rat rfl (.tmp 0) rfl rfl ?_) | (refine wpList_box_rat rfl (.tmp 1) rfl rfl ?_) | (refine wpList_load_rat rfl (.tmp 2) rfl rfl HT.out.1 ?_) | (refine wpList_load_rat rfl (.tmp 3) rfl rfl HT.out.2.1 ?_))
  refine (HBG.out _).mono ?_
  rintro e w1 ⟨B, rfl, hB, hP, hw1⟩
  have hz := hWs.out
  have hbl := HT.out.2.2.1.trans (hw1.mono (by omega))
  have HB1 := Lib.hid hbl
  have hSB : S < B := by omega
  have hB1 := hP.err.lt
  have HP := Lib.hid hP
  clear hbl hP hw1 hB hW HT hWs hz HBG
  go_wp2_with fail
  have HCR' := HCR.out w1 B HP
  unfold intV at HCR'
  refine HCR'.mono ?_
  rintro e w2 ⟨rfl, hw2⟩
  have hbl2 := hw2.below S w (by omega) (by omega) HB1.out
  have hs2 : B < w2.heap.size := hw2.err.lt
  obtain ⟨Q, hQ⟩ : ∃ Q, w2.heap.size = Q := ⟨_, rfl⟩
  have Y := two_ints w2 z1 r1 z2 r2 25 25
  have hE := hw2.err.below Y.2.2.1
  have hbl3 := hbl2.trans (Y.2.2.1.mono (by omega))
  obtain ⟨wd, hwd⟩ : ∃ wd, (w2.alloc (boxI z1 r1 25)).alloc (boxI z2 r2 25) = wd := ⟨_, rfl⟩
  rw [hwd] at Y hE hbl3
  rw [hQ] at Y hs2
  have HB3 := Lib.hid hbl3
  have HX2 := Lib.hid Y.1
  have HX3 := Lib.hid Y.2.1
  have HE := Lib.hid hE
  have hsd : S ≤ wd.heap.size := by have := Y.2.2.2; omega
  clear hbl2 hbl3 hE Y hw2 HP HB1 HCR HCR' hB1
  by_cases hk : k2 = 0
  · subst hk
    have HZ := Lib.hid (HZZ.out.symm.trans (if_pos rfl))
    have HF := Lib.hid (failed_zero B wd HE)
    go_wp2_with fail
    refine HF.out.mono ?_
    rintro e w3 ⟨rfl, rfl⟩
    go_wp2_with (first | (refine wpList_load_int rfl (.tmp 7) rfl rfl HX2.out.o ?_) | (refine wpList_load_int rfl (.tmp 8) rfl rfl HX3.out.o ?_))
    refine (HCP.out _).mono ?_
    rintro e w4 ⟨rfl, hw4⟩
    have HB4 := Lib.hid (HB3.out.trans (hw4.mono hsd))
    clear hw4
    go_wp2_with fail
    go_ret2
    exact ⟨by rw [HZ.out]; rfl, HB4.out⟩
  · have HZ := Lib.hid (HZZ.out.symm.trans (if_neg hk))
    have HF := Lib.hid (failed_pos B k2 hk wd HE)
    clear hk
    go_wp2_with fail
    refine HF.out.mono ?_
    rintro e w3 ⟨rfl, rfl⟩
    go_wp2_with fail
    refine rg_begin (fun W' => ErrAt W' B k2) (by kernel_rfl) HE.out.drew (fun hS => ?_)
    refine rg_take 0 (.pointer (some ⟨B, 0, none⟩)) rfl (by kernel_rfl) (by kernel_rfl) (by kernel_rfl) (fun _ _ _ h => h) rfl (fun w _ => ?_) hS ?_
    · go_simp
    simp only [List.getElem_toArray, List.getElem_cons_zero, List.getElem_cons_succ, Act.put, List.setIfInBounds_toArray, List.set_cons_zero, List.set_cons_succ]
    refine rg_take 1 (.pointer (some ⟨B, 0, none⟩)) rfl (by kernel_rfl) (by kernel_rfl) (by kernel_rfl) (fun _ _ _ h => h) rfl (fun w _ => ?_) hS ?_
    · go_simp
    simp only [List.getElem_toArray, List.getElem_cons_zero, List.getElem_cons_succ, Act.put, List.setIfInBounds_toArray, List.set_cons_zero, List.set_cons_succ]
    refine rg_take 2 (.pointer (some ⟨B, 0, none⟩)) rfl (by kernel_rfl) (by kernel_rfl) (by kernel_rfl) (fun _ _ _ h => h) rfl (fun w _ => ?_) hS ?_
    · go_simp
    simp only [List.getElem_toArray, List.getElem_cons_zero, List.getElem_cons_succ, Act.put, List.setIfInBounds_toArray, List.set_cons_zero, List.set_cons_succ]
    refine rg_take 3 (.pointer (some ⟨B, 0, none⟩)) rfl (by kernel_rfl) (by kernel_rfl) (by kernel_rfl) (fun _ _ _ h => h) rfl (fun w _ => ?_) hS ?_
    · go_simp
    simp only [List.getElem_toArray, List.getElem_cons_zero, List.getElem_cons_succ, Act.put, List.setIfInBounds_toArray, List.set_cons_zero, List.set_cons_succ]
    refine rg_take 4 (errV k2) rfl (by kernel_rfl) (by kernel_rfl) (by kernel_rfl) (fun _ _ _ h => h) rfl (fun w hSw => ?_) hS ?_
    · have e0 : w.cell? ⟨B, 0, none⟩ = some (errV k2) := hSw.cell
      go_simp
    simp only [List.getElem_toArray, List.getElem_cons_zero, List.getElem_cons_succ, Act.put, List.setIfInBounds_toArray, List.set_cons_zero, List.set_cons_succ]
    refine rg_take 5 (.int .i64 0) rfl (by kernel_rfl) (by kernel_rfl) (by kernel_rfl) (fun _ _ _ h => h) rfl (fun w _ => ?_) hS ?_
    · go_simp
    simp only [List.getElem_toArray, List.getElem_cons_zero, List.getElem_cons_succ, Act.put, List.setIfInBounds_toArray, List.set_cons_zero, List.set_cons_succ]
    refine rg_take 6 (errV k2) rfl (by kernel_rfl) (by kernel_rfl) (by kernel_rfl) (fun _ _ _ h => h) rfl (fun w _ => ?_) hS ?_
    · go_simp
    simp only [List.getElem_toArray, List.getElem_cons_zero, List.getElem_cons_succ, Act.put, List.setIfInBounds_toArray, List.set_cons_zero, List.set_cons_succ]
    refine wpAnyH_done (by kernel_rfl) ?_ _
    go_wp2_with fail
    go_ret2
    exact ⟨by rw [HZ.out]; rfl, HB3.out.drew⟩
end Go.Proofs.YtbcnpajdmlbieaaDoor
