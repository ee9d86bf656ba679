/-
  Stage 8: 'ratio' of a pair: its error, or the numbers in lowest terms.
-/
import Derived.Test.YtbcnpajdmlbieaaDoorRtC
namespace Go.Proofs.YtbcnpajdmlbieaaDoor
open Go.RowKit Go.Sort
set_option linter.unusedSimpArgs false

/-- The parts of what Make answers. -/
def mkS (s : Bool) (n : Nat) (t : Bool) (m : Nat) : Bool := if m = 0 then false else sgn (s != t) (n / Nat.gcd n m)
def mkN (n m : Nat) : Nat := if m = 0 then 0 else n / Nat.gcd n m
def mkD (n m : Nat) : Nat := if m = 0 then 0 else m / Nat.gcd n m
def mkK (m : Nat) : Nat := if m = 0 then 10 else 0
theorem makeV_eq (s : Bool) (n : Nat) (t : Bool) (m : Nat) : makeV s n t m = .tuple #[ratV (mkS s n t m) (mkN n m) false (mkD n m), errV (mkK m)] := by
  unfold makeV mkS mkN mkD mkK
  by_cases h : m = 0
  · rw [if_pos h, if_pos h, if_pos h, if_pos h, if_pos h]
  · rw [if_neg h, if_neg h, if_neg h, if_neg h, if_neg h]; rfl
theorem Make_run (s : Bool) (n : Nat) (t : Bool) (m : Nat) (w : World) (hn : Hid (Fits n)) (hm : Hid (Fits m)) :
    Calls Tryd.prog 15 #[intV s n, intV t m] w fun e w' => e = .returned (.tuple #[ratV (mkS s n t m) (mkN n m) false (mkD n m), errV (mkK m)]) ∧ Below w.heap.size w w' := by
  rw [← makeV_eq]
  rcases Nat.eq_zero_or_pos m with h | h
  · subst h; exact Make_zero s n t w
  · exact Make_pos s n t m w hn hm h
/-- What ratio answers behind the error k. -/
def rtS (k : Nat) (s : Bool) (n : Nat) (t : Bool) (m : Nat) : Bool := if k = 0 then mkS s n t m else false
def rtN (k n m : Nat) : Nat := if k = 0 then mkN n m else 0
def rtD (k n m : Nat) : Nat := if k = 0 then mkD n m else 0
def rtK (k m : Nat) : Nat := if k = 0 then mkK m else k
set_option maxRecDepth 100000 in
set_option maxHeartbeats 2000000 in
theorem ratio_run (B k : Nat) (s : Bool) (n : Nat) (t : Bool) (m : Nat) (w : World) (h : Hid (ErrAt w B k)) (hn : Hid (Fits n)) (hm : Hid (Fits m)) :
    Calls Tryd.prog 19 #[.pointer (some ⟨B, 0, none⟩), intV s n, intV t m] w fun e w' => e = .returned (.tuple #[ratV (rtS k s n t m) (rtN k n m) false (rtD k n m), errV (rtK k m)]) ∧ Below w.heap.size w w' := by
  obtain ⟨S, hS⟩ : ∃ S, w.heap.size = S := ⟨_, rfl⟩
  obtain ⟨W, hW⟩ : ∃ W, ((w.alloc (boxI s n 25)).alloc (boxI t m 25)).alloc (boxRZ 27) = W := ⟨_, rfl⟩
  have T := make_boxes w s n t m 25 25 27
  rw [hW] at T
  have HE := Lib.hid (h.out.below T.2.2.2.1)
  rw [hS] at T ⊢
  have hB : B < S := hS ▸ h.out.lt
  have HT := Lib.hid T
  have hWs : W.heap.size = S + 1 + 1 + 1 := T.2.2.2.2
  clear T h
  by_cases hk : k = 0
  · subst hk
    have HM := Lib.hid (fun W => Make_run s n t m W hn hm)
    have e1 : rtS 0 s n t m = mkS s n t m := rfl
    have e2 : rtN 0 n m = mkN n m := rfl
    have e3 : rtD 0 n m = mkD n m := rfl
    have e4 : rtK 0 m = mkK m := rfl
    rw [e1, e2, e3, e4]
    clear e1 e2 e3 e4 hn hm
    generalize mkS s n t m = z at *
    generalize mkN n m = q at *
    generalize mkD n m = p at *
    have hv := errV_one (mkK m)
    generalize errV (mkK m) = v at *
    have HF := Lib.hid (failed_zero B W HE)
    have HWs := Lib.hid hWs
    clear hWs HE hB
    go_enter Tryd.func19, Tryd.ntmps19
    go_wp2_with (first | (refine wpList_box_int rfl (.tmp 1) rfl rfl ?_) | (refine wpList_box_int rfl (.tmp 2) rfl rfl ?_))
    refine HF.out.mono ?_
    rintro e w1 ⟨rfl, rfl⟩
    go_wp2_with (first | (refine wpList_load_int rfl (.tmp 4) rfl rfl HT.out.1.o ?_) | (refine wpList_load_int rfl (.tmp 5) rfl rfl HT.out.2.1.o ?_))
    refine (HM.out _).mono ?_
    rintro e w2 ⟨rfl, hw2⟩
    have R3 := Lib.hid (HT.out.2.2.1.keep hw2 (by rw [HWs.out]; omega))
    have B3 := Lib.hid (HT.out.2.2.2.1.trans (hw2.mono (by rw [HWs.out]; omega)))
    clear hw2 HT HF HM hW
    go_wp2_with (refine wpList_store_rat rfl (.tmp 6) (.tmp 21) rfl (s := z) (n := q) (t := false) (d := p) rfl rfl R3.out ?_)
    refine bodyPost_ret (v := .tuple #[ratV z q false p, v]) (results_rat rfl rfl rfl (st18_at R3.out)) rfl ⟨rfl, ?_⟩
    exact (st18_but w2 (S + 1 + 1) z q false p).2.1 S w (by omega) B3.out
  · have e1 : rtS k s n t m = false := if_neg hk
    have e2 : rtN k n m = 0 := if_neg hk
    have e3 : rtD k n m = 0 := if_neg hk
    have e4 : rtK k m = k := if_neg hk
    rw [e1, e2, e3, e4]
    have HF := Lib.hid (failed_pos B k hk W HE)
    clear hWs e1 e2 e3 e4 hk hn hm
    go_enter Tryd.func19, Tryd.ntmps19
    go_wp2_with (first | (refine wpList_box_int rfl (.tmp 1) rfl rfl ?_) | (refine wpList_box_int rfl (.tmp 2) rfl rfl ?_))
    refine HF.out.mono ?_
    rintro e w1 ⟨rfl, rfl⟩
    go_wp2_with fail
    have bb := st18_but W.drew (S + 1 + 1) false 0 false 0
    refine rg_begin (fun W' => ErrAt W' B k) (by kernel_rfl) HE.out.drew (fun hS => ?_)
    refine rg_take 0 (ratV false 0 false 0) rfl (by kernel_rfl) (by kernel_rfl) (by kernel_rfl) (fun _ _ _ h => h) rfl (fun w _ => ?_) hS ?_
    · rw [ratV_zero]; go_simp
    simp only [List.getElem_toArray, List.getElem_cons_zero, List.getElem_cons_succ, Act.put, List.setIfInBounds_toArray, List.set_cons_zero, List.set_cons_succ]
    refine rg_take 1 (.pointer (some ⟨B, 0, none⟩)) rfl (by kernel_rfl) (by kernel_rfl) (by kernel_rfl) (fun _ _ _ h => h) rfl (fun w _ => ?_) hS ?_
    · go_simp
    simp only [List.getElem_toArray, List.getElem_cons_zero, List.getElem_cons_succ, Act.put, List.setIfInBounds_toArray, List.set_cons_zero, List.set_cons_succ]
    refine rg_take 2 (.pointer (some ⟨B, 0, none⟩)) rfl (by kernel_rfl) (by kernel_rfl) (by kernel_rfl) (fun _ _ _ h => h) rfl (fun w _ => ?_) hS ?_
    · go_simp
    simp only [List.getElem_toArray, List.getElem_cons_zero, List.getElem_cons_succ, Act.put, List.setIfInBounds_toArray, List.set_cons_zero, List.set_cons_succ]
    refine rg_take 3 (.pointer (some ⟨B, 0, none⟩)) rfl (by kernel_rfl) (by kernel_rfl) (by kernel_rfl) (fun _ _ _ h => h) rfl (fun w _ => ?_) hS ?_
    · go_simp
    simp only [List.getElem_toArray, List.getElem_cons_zero, List.getElem_cons_succ, Act.put, List.setIfInBounds_toArray, List.set_cons_zero, List.set_cons_succ]
    refine rg_take 4 (.pointer (some ⟨B, 0, none⟩)) rfl (by kernel_rfl) (by kernel_rfl) (by kernel_rfl) (fun _ _ _ h => h) rfl (fun w _ => ?_) hS ?_
    · go_simp
    simp only [List.getElem_toArray, List.getElem_cons_zero, List.getElem_cons_succ, Act.put, List.setIfInBounds_toArray, List.set_cons_zero, List.set_cons_succ]
    refine rg_take 5 (errV k) rfl (by kernel_rfl) (by kernel_rfl) (by kernel_rfl) (fun _ _ _ h => h) rfl (fun w hSw => ?_) hS ?_
    · have e0 : w.cell? ⟨B, 0, none⟩ = some (errV k) := hSw.cell
      go_simp
    simp only [List.getElem_toArray, List.getElem_cons_zero, List.getElem_cons_succ, Act.put, List.setIfInBounds_toArray, List.set_cons_zero, List.set_cons_succ]
    refine rg_one 6 (by kernel_rfl) (rs_of rfl rfl (stores_rat (.tmp 6) (.tmp 12) rfl (b := S + 1 + 1) (s := false) (n := 0) (t := false) (d := 0) rfl rfl HT.out.2.2.1.drew ⟨hS.but1 bb (by omega), ?_⟩))
    have hS := hS.but1 bb (by omega)
    simp only [List.getElem_toArray, List.getElem_cons_zero, List.getElem_cons_succ, Act.put, List.setIfInBounds_toArray, List.set_cons_zero, List.set_cons_succ]
    refine rg_take 7 (errV k) rfl (by kernel_rfl) (by kernel_rfl) (by kernel_rfl) (fun _ _ _ h => h) rfl (fun w _ => ?_) hS ?_
    · go_simp
    simp only [List.getElem_toArray, List.getElem_cons_zero, List.getElem_cons_succ, Act.put, List.setIfInBounds_toArray, List.set_cons_zero, List.set_cons_succ]
    refine wpAnyH_done (by kernel_rfl) ?_ _
    go_wp2_with fail
    refine bodyPost_ret (v := .tuple #[ratV false 0 false 0, errV k]) (results_rat rfl rfl rfl (st18_at HT.out.2.2.1.drew)) rfl ⟨rfl, ?_⟩
    exact bb.2.1 S w (by omega) HT.out.2.2.2.1.drew
end Go.Proofs.YtbcnpajdmlbieaaDoor
