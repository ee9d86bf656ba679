/-
  Stage 8: a step with or without an earlier error; 'cross' and 'ratio' of a pair.
-/
import Derived.Test.YtgoemhcngmpfbaaGreatDoorMw13
import Derived.Test.YtgoemhcngmpfbaaGreatDoorMw14
import Derived.Test.YtgoemhcngmpfbaaGreatDoorMw09

namespace Go.Proofs.YtgoemhcngmpfbaaGreatDoor
open Go.RowKit Go.Sort
set_option linter.unusedSimpArgs false

/-- What limb's calls answer: the sign, the size and the error of a result. -/
def resS (s : Bool) (n : Nat) : Bool := if n < 18446744073709551616 ^ 8 then sgn s n else false
def resN (n : Nat) : Nat := if n < 18446744073709551616 ^ 8 then n else 0
def resK (n : Nat) : Nat := if n < 18446744073709551616 ^ 8 then 0 else 9
theorem resV_eq (s : Bool) (n : Nat) : resV s n = .tuple #[intV (resS s n) (resN n), errV (resK n)] := by
  unfold resV resS resN resK
  by_cases h : n < 18446744073709551616 ^ 8
  · rw [if_pos h, if_pos h, if_pos h, if_pos h]; rfl
  · rw [if_neg h, if_neg h, if_neg h, if_neg h]; rfl
theorem resN_fits (n : Nat) : Fits (resN n) := by
  unfold resN Fits
  by_cases h : n < 18446744073709551616 ^ 8
  · rw [if_pos h]; exact h
  · rw [if_neg h]; exact Nat.pow_pos (by decide)
/-- What 'do' answers behind the error k. -/
def doS (k : Nat) (z : Bool) : Bool := if k = 0 then z else false
def doN (k r : Nat) : Nat := if k = 0 then r else 0
theorem doN_fits (k : Nat) {r : Nat} (h : Fits r) : Fits (doN k r) := by
  unfold doN
  split
  · exact h
  · exact Nat.pow_pos (by decide)
theorem do_run (f b k j : Nat) (s : Bool) (n : Nat) (t : Bool) (m : Nat) (z : Bool) (r : Nat) (w : World) (h : Hid (ErrAt w b k)) (hcf : Hid (Enters f))
    (hop : Hid (∀ W, Calls Tryz.prog f #[intV s n, intV t m] W fun e w' => e = .returned (.tuple #[intV z r, errV j]) ∧ Below W.heap.size W w')) :
    Calls Tryz.prog 39 #[.pointer (some ⟨b, 0, none⟩), fnV f, intV s n, intV t m] w fun e w' => e = .returned (intV (doS k z) (doN k r)) ∧ Ste w w' b (kept k j) := by
  unfold doS doN kept
  by_cases hk : k = 0
  · subst hk
    simp only [if_true]
    exact do_first f b j s n t m z r w h hcf hop
  · simp only [if_neg hk]
    exact do_past f b k hk s n t m w h
/-- A product as a step. -/
theorem do_mul (b k : Nat) (s : Bool) (n : Nat) (t : Bool) (m : Nat) (w : World) (h : Hid (ErrAt w b k)) (hn : Hid (Fits n)) (hm : Hid (Fits m)) :
    Calls Tryz.prog 39 #[.pointer (some ⟨b, 0, none⟩), fnV 93, intV s n, intV t m] w fun e w' => e = .returned (intV (doS k (resS (s != t) (n * m))) (doN k (resN (n * m)))) ∧ Ste w w' b (kept k (resK (n * m))) :=
  do_run _ b k _ s n t m _ _ w h enters_Mul fun W => (Mul_run s n t m W hn hm).mono fun e w' ⟨he, hw⟩ => ⟨by rw [he, resV_eq], hw⟩
theorem results_int2 {fn : Func} {p q : Tmp} (hf : fn.results = #[.cell p 25, .cell q 25]) {tmps : Array Value} {W : World} {b c n m : Nat} {s t : Bool} (hp : tmps.getD p undef = .pointer (some ⟨b, 0, none⟩)) (hq : tmps.getD q undef = .pointer (some ⟨c, 0, none⟩)) (h : IntAt W b s n) (g : IntAt W c t m) :
    (results fn tmps).run Tryz.prog W = .ok (.tuple #[intV s n, intV t m]) W := by
  rw [results_cell2 hf, hp, hq]
  simp [asAddr, load_int h.o, load_int g.o]
/-- What cross holds on its way: the pair, whatever its error, and the two results' boxes. -/
structure CrInv (w W : World) (S B : Nat) (k : Nat) (s : Bool) (n : Nat) (t : Bool) (d : Nat) (s' : Bool) (n' : Nat) (t' : Bool) (d' : Nat) : Prop where
  st : Ste w W B k
  pr : PairAt W B k s n t d s' n' t' d'
  i1 : IntAt W S false 0
  i2 : IntAt W (S + 1) false 0
  hw : w.heap.size = S
  hB : B < S
  sz : S + 1 + 1 ≤ W.heap.size
theorem CrInv.ste {w W V : World} {S B k j n d n' d' : Nat} {s t s' t' : Bool} (h : CrInv w W S B k s n t d s' n' t' d') (g : Ste W V B j) : CrInv w V S B j s n t d s' n' t' d' :=
  have h1 := h.hB; have h2 := h.sz
  ⟨h.st.trans g, h.pr.ste g, h.i1.ste g (by omega) (by omega), h.i2.ste g (by omega) (by omega), h.hw, h1, Nat.le_trans h2 g.size⟩
theorem CrInv.drew {w W : World} {S B k n d n' d' : Nat} {s t s' t' : Bool} (h : CrInv w W S B k s n t d s' n' t' d') : CrInv w W.drew S B k s n t d s' n' t' d' := ⟨h.st.drew, h.pr.drew, h.i1.drew, h.i2.drew, h.hw, h.hB, h.sz⟩
/-- The pair alone, through stores elsewhere. -/
theorem PairAt.but {w w' : World} {b c k n d n' d' : Nat} {s t s' t' : Bool} (h : PairAt w b k s n t d s' n' t' d') (g : But1 w w' c) (hne : b ≠ c) : PairAt w' b k s n t d s' n' t' d' :=
  ⟨h.err.but1 g hne, h.an.but g hne, h.ad.but g hne, h.bn.but g hne, h.bd.but g hne⟩
/-- What cross answers: the two products, behind the error k. -/
def crK1 (k n d' : Nat) : Nat := kept k (resK (n * d'))
def crK (k n d n' d' : Nat) : Nat := kept (crK1 k n d') (resK (n' * d))
def crLS (k : Nat) (s : Bool) (n : Nat) (t' : Bool) (d' : Nat) : Bool := doS k (resS (s != t') (n * d'))
def crLN (k n d' : Nat) : Nat := doN k (resN (n * d'))
def crRS (k n d' : Nat) (s' : Bool) (n' : Nat) (t : Bool) (d : Nat) : Bool := doS (crK1 k n d') (resS (s' != t) (n' * d))
def crRN (k n d' n' d : Nat) : Nat := doN (crK1 k n d') (resN (n' * d))
set_option maxRecDepth 100000 in
set_option maxHeartbeats 4000000 in
theorem cross_run (B k : Nat) (s : Bool) (n : Nat) (t : Bool) (d : Nat) (s' : Bool) (n' : Nat) (t' : Bool) (d' : Nat) (w : World) (h : Hid (PairAt w B k s n t d s' n' t' d')) (hn : Hid (Fits n)) (hd : Hid (Fits d)) (hn' : Hid (Fits n')) (hd' : Hid (Fits d')) :
    Calls Tryz.prog 90 #[.pointer (some ⟨B, 0, none⟩)] w fun e w' => e = .returned (.tuple #[intV (crLS k s n t' d') (crLN k n d'), intV (crRS k n d' s' n' t d) (crRN k n d' n' d)]) ∧ Ste w w' B (crK k n d n' d') := by
  have HD1 : Hid (∀ W, Hid (ErrAt W B k) → Calls Tryz.prog 39 #[.pointer (some ⟨B, 0, none⟩), fnV 93, intV s n, intV t' d'] W fun e w' => e = .returned (intV (crLS k s n t' d') (crLN k n d')) ∧ Ste W w' B (crK1 k n d')) := fun W h => by
    unfold crLS crLN crK1
    exact do_mul B k s n t' d' W h hn hd'
  have HD2 : Hid (∀ W, Hid (ErrAt W B (crK1 k n d')) → Calls Tryz.prog 39 #[.pointer (some ⟨B, 0, none⟩), fnV 93, intV s' n', intV t d] W fun e w' => e = .returned (intV (crRS k n d' s' n' t d) (crRN k n d' n' d)) ∧ Ste W w' B (crK k n d n' d')) := fun W h => by
    unfold crRS crRN crK
    exact do_mul B (crK1 k n d') s' n' t d W h hn' hd
  generalize crK k n d n' d' = k2 at *
  generalize crK1 k n d' = k1 at *
  generalize crLS k s n t' d' = z1 at *
  generalize crLN k n d' = r1 at *
  generalize crRS k n d' s' n' t d = z2 at *
  generalize crRN k n d' n' d = r2 at *
  obtain ⟨S, hS⟩ : ∃ S, w.heap.size = S := ⟨_, rfl⟩
  have hB : B < S := hS ▸ h.out.err.lt
  obtain ⟨W, hW⟩ : ∃ W, ((w.alloc (boxIZ 25)).alloc (boxIZ 25)) = W := ⟨_, rfl⟩
  have T1 := (IntAt.zero w 25).alloc (by simp) (boxIZ 25)
  have T2 := IntAt.zero (w.alloc (boxIZ 25)) 25
  have TB := (below_alloc w (boxIZ 25)).alloc (by simp) (boxIZ 25)
  have Tz : (w.alloc (boxIZ 25)).heap.size = w.heap.size + 1 := by simp
  have Ts : ((w.alloc (boxIZ 25)).alloc (boxIZ 25)).heap.size = w.heap.size + 1 + 1 := by simp
  rw [Tz] at T2
  rw [hW] at T1 T2 TB Ts
  have TP := h.out.keep TB (by omega)
  have TS := Ste.of_below h.out.err TB
  rw [hS] at T1 T2 Ts
  have HI : Hid (CrInv w W S B k s n t d s' n' t' d') := ⟨TS, TP, T1, T2, hS, hB, Nat.le_of_eq Ts.symm⟩
  clear T1 T2 TB Tz Ts TP TS h hn hd hn' hd'
  go_enter Tryz.func90, Tryz.ntmps90
  go_wp2_with fail
  refine rg_begin (fun W' => ∃ j, PairAt W' B j s n t d s' n' t' d') (by kernel_rfl) ⟨_, HI.out.pr.drew⟩ (fun hS => ?_)
  refine rg_take 0 (.pointer (some ⟨B, 0, none⟩)) rfl (by kernel_rfl) (by kernel_rfl) (by kernel_rfl) (fun _ _ _ h => h) rfl (fun w _ => ?_) hS ?_
  · go_simp
  simp only [List.getElem_toArray, List.getElem_cons_zero, List.getElem_cons_succ, Act.put, List.setIfInBounds_toArray, List.set_cons_zero, List.set_cons_succ]
  refine rg_take 1 (.pointer (some ⟨B, 0, none⟩)) rfl (by kernel_rfl) (by kernel_rfl) (by kernel_rfl) (fun _ _ _ h => h) rfl (fun w _ => ?_) hS ?_
  · go_simp
  simp only [List.getElem_toArray, List.getElem_cons_zero, List.getElem_cons_succ, Act.put, List.setIfInBounds_toArray, List.set_cons_zero, List.set_cons_succ]
  refine rg_take 2 (.pointer (some ⟨B, 0, none⟩)) rfl (by kernel_rfl) (by kernel_rfl) (by kernel_rfl) (fun _ _ _ h => h) rfl (fun w _ => ?_) hS ?_
  · go_simp
  simp only [List.getElem_toArray, List.getElem_cons_zero, List.getElem_cons_succ, Act.put, List.setIfInBounds_toArray, List.set_cons_zero, List.set_cons_succ]
  refine rg_take 3 (.pointer (some ⟨B, 0, none⟩)) rfl (by kernel_rfl) (by kernel_rfl) (by kernel_rfl) (fun _ _ _ h => h) rfl (fun w _ => ?_) hS ?_
  · go_simp
  simp only [List.getElem_toArray, List.getElem_cons_zero, List.getElem_cons_succ, Act.put, List.setIfInBounds_toArray, List.set_cons_zero, List.set_cons_succ]
  refine rg_take 4 (.pointer (some ⟨B, 0, none⟩)) rfl (by kernel_rfl) (by kernel_rfl) (by kernel_rfl) (fun _ _ _ h => h) rfl (fun w _ => ?_) hS ?_
  · go_simp
  simp only [List.getElem_toArray, List.getElem_cons_zero, List.getElem_cons_succ, Act.put, List.setIfInBounds_toArray, List.set_cons_zero, List.set_cons_succ]
  refine rg_take 5 (.pointer (some ⟨B, 1, none⟩)) rfl (by kernel_rfl) (by kernel_rfl) (by kernel_rfl) (fun _ _ _ h => h) rfl (fun w _ => ?_) hS ?_
  · go_simp
  simp only [List.getElem_toArray, List.getElem_cons_zero, List.getElem_cons_succ, Act.put, List.setIfInBounds_toArray, List.set_cons_zero, List.set_cons_succ]
  refine rg_take 6 (.pointer (some ⟨B, 1, none⟩)) rfl (by kernel_rfl) (by kernel_rfl) (by kernel_rfl) (fun _ _ _ h => h) rfl (fun w _ => ?_) hS ?_
  · go_simp
  simp only [List.getElem_toArray, List.getElem_cons_zero, List.getElem_cons_succ, Act.put, List.setIfInBounds_toArray, List.set_cons_zero, List.set_cons_succ]
  refine rg_take 7 (intV s n) rfl (by kernel_rfl) (by kernel_rfl) (by kernel_rfl) (fun _ _ _ h => h) rfl (fun w hSw => by obtain ⟨j, h⟩ := hSw; exact ld_int (.tmp 10) rfl rfl h.an) hS ?_
  simp only [List.getElem_toArray, List.getElem_cons_zero, List.getElem_cons_succ, Act.put, List.setIfInBounds_toArray, List.set_cons_zero, List.set_cons_succ]
  refine rg_take 8 (.pointer (some ⟨B, 0, none⟩)) rfl (by kernel_rfl) (by kernel_rfl) (by kernel_rfl) (fun _ _ _ h => h) rfl (fun w _ => ?_) hS ?_
  · go_simp
  simp only [List.getElem_toArray, List.getElem_cons_zero, List.getElem_cons_succ, Act.put, List.setIfInBounds_toArray, List.set_cons_zero, List.set_cons_succ]
  refine rg_take 9 (.pointer (some ⟨B, 0, none⟩)) rfl (by kernel_rfl) (by kernel_rfl) (by kernel_rfl) (fun _ _ _ h => h) rfl (fun w _ => ?_) hS ?_
  · go_simp
  simp only [List.getElem_toArray, List.getElem_cons_zero, List.getElem_cons_succ, Act.put, List.setIfInBounds_toArray, List.set_cons_zero, List.set_cons_succ]
  refine rg_take 10 (.pointer (some ⟨B, 19, none⟩)) rfl (by kernel_rfl) (by kernel_rfl) (by kernel_rfl) (fun _ _ _ h => h) rfl (fun w _ => ?_) hS ?_
  · go_simp
  simp only [List.getElem_toArray, List.getElem_cons_zero, List.getElem_cons_succ, Act.put, List.setIfInBounds_toArray, List.set_cons_zero, List.set_cons_succ]
  refine rg_take 11 (.pointer (some ⟨B, 28, none⟩)) rfl (by kernel_rfl) (by kernel_rfl) (by kernel_rfl) (fun _ _ _ h => h) rfl (fun w _ => ?_) hS ?_
  · go_simp
  simp only [List.getElem_toArray, List.getElem_cons_zero, List.getElem_cons_succ, Act.put, List.setIfInBounds_toArray, List.set_cons_zero, List.set_cons_succ]
  refine rg_take 12 (intV t' d') rfl (by kernel_rfl) (by kernel_rfl) (by kernel_rfl) (fun _ _ _ h => h) rfl (fun w hSw => by obtain ⟨j, h⟩ := hSw; exact ld_int (.tmp 15) rfl rfl h.bd) hS ?_
  simp only [List.getElem_toArray, List.getElem_cons_zero, List.getElem_cons_succ, Act.put, List.setIfInBounds_toArray, List.set_cons_zero, List.set_cons_succ]
  refine rg_take 14 (.pointer (some ⟨B, 0, none⟩)) rfl (by kernel_rfl) (by kernel_rfl) (by kernel_rfl) (fun _ _ _ h => h) rfl (fun w _ => ?_) hS ?_
  · go_simp
  simp only [List.getElem_toArray, List.getElem_cons_zero, List.getElem_cons_succ, Act.put, List.setIfInBounds_toArray, List.set_cons_zero, List.set_cons_succ]
  refine rg_take 15 (.pointer (some ⟨B, 0, none⟩)) rfl (by kernel_rfl) (by kernel_rfl) (by kernel_rfl) (fun _ _ _ h => h) rfl (fun w _ => ?_) hS ?_
  · go_simp
  simp only [List.getElem_toArray, List.getElem_cons_zero, List.getElem_cons_succ, Act.put, List.setIfInBounds_toArray, List.set_cons_zero, List.set_cons_succ]
  refine rg_take 16 (.pointer (some ⟨B, 0, none⟩)) rfl (by kernel_rfl) (by kernel_rfl) (by kernel_rfl) (fun _ _ _ h => h) rfl (fun w _ => ?_) hS ?_
  · go_simp
  simp only [List.getElem_toArray, List.getElem_cons_zero, List.getElem_cons_succ, Act.put, List.setIfInBounds_toArray, List.set_cons_zero, List.set_cons_succ]
  refine rg_take 17 (.pointer (some ⟨B, 0, none⟩)) rfl (by kernel_rfl) (by kernel_rfl) (by kernel_rfl) (fun _ _ _ h => h) rfl (fun w _ => ?_) hS ?_
  · go_simp
  simp only [List.getElem_toArray, List.getElem_cons_zero, List.getElem_cons_succ, Act.put, List.setIfInBounds_toArray, List.set_cons_zero, List.set_cons_succ]
  refine rg_take 18 (.pointer (some ⟨B, 0, none⟩)) rfl (by kernel_rfl) (by kernel_rfl) (by kernel_rfl) (fun _ _ _ h => h) rfl (fun w _ => ?_) hS ?_
  · go_simp
  simp only [List.getElem_toArray, List.getElem_cons_zero, List.getElem_cons_succ, Act.put, List.setIfInBounds_toArray, List.set_cons_zero, List.set_cons_succ]
  refine rg_take 19 (.pointer (some ⟨B, 19, none⟩)) rfl (by kernel_rfl) (by kernel_rfl) (by kernel_rfl) (fun _ _ _ h => h) rfl (fun w _ => ?_) hS ?_
  · go_simp
  simp only [List.getElem_toArray, List.getElem_cons_zero, List.getElem_cons_succ, Act.put, List.setIfInBounds_toArray, List.set_cons_zero, List.set_cons_succ]
  refine rg_take 20 (.pointer (some ⟨B, 19, none⟩)) rfl (by kernel_rfl) (by kernel_rfl) (by kernel_rfl) (fun _ _ _ h => h) rfl (fun w _ => ?_) hS ?_
  · go_simp
  simp only [List.getElem_toArray, List.getElem_cons_zero, List.getElem_cons_succ, Act.put, List.setIfInBounds_toArray, List.set_cons_zero, List.set_cons_succ]
  refine rg_take 21 (intV s' n') rfl (by kernel_rfl) (by kernel_rfl) (by kernel_rfl) (fun _ _ _ h => h) rfl (fun w hSw => by obtain ⟨j, h⟩ := hSw; exact ld_int (.tmp 24) rfl rfl h.bn) hS ?_
  simp only [List.getElem_toArray, List.getElem_cons_zero, List.getElem_cons_succ, Act.put, List.setIfInBounds_toArray, List.set_cons_zero, List.set_cons_succ]
  refine rg_take 22 (.pointer (some ⟨B, 0, none⟩)) rfl (by kernel_rfl) (by kernel_rfl) (by kernel_rfl) (fun _ _ _ h => h) rfl (fun w _ => ?_) hS ?_
  · go_simp
  simp only [List.getElem_toArray, List.getElem_cons_zero, List.getElem_cons_succ, Act.put, List.setIfInBounds_toArray, List.set_cons_zero, List.set_cons_succ]
  refine rg_take 23 (.pointer (some ⟨B, 0, none⟩)) rfl (by kernel_rfl) (by kernel_rfl) (by kernel_rfl) (fun _ _ _ h => h) rfl (fun w _ => ?_) hS ?_
  · go_simp
  simp only [List.getElem_toArray, List.getElem_cons_zero, List.getElem_cons_succ, Act.put, List.setIfInBounds_toArray, List.set_cons_zero, List.set_cons_succ]
  refine rg_take 24 (.pointer (some ⟨B, 1, none⟩)) rfl (by kernel_rfl) (by kernel_rfl) (by kernel_rfl) (fun _ _ _ h => h) rfl (fun w _ => ?_) hS ?_
  · go_simp
  simp only [List.getElem_toArray, List.getElem_cons_zero, List.getElem_cons_succ, Act.put, List.setIfInBounds_toArray, List.set_cons_zero, List.set_cons_succ]
  refine rg_take 25 (.pointer (some ⟨B, 10, none⟩)) rfl (by kernel_rfl) (by kernel_rfl) (by kernel_rfl) (fun _ _ _ h => h) rfl (fun w _ => ?_) hS ?_
  · go_simp
  simp only [List.getElem_toArray, List.getElem_cons_zero, List.getElem_cons_succ, Act.put, List.setIfInBounds_toArray, List.set_cons_zero, List.set_cons_succ]
  refine rg_take 26 (intV t d) rfl (by kernel_rfl) (by kernel_rfl) (by kernel_rfl) (fun _ _ _ h => h) rfl (fun w hSw => by obtain ⟨j, h⟩ := hSw; exact ld_int (.tmp 29) rfl rfl h.ad) hS ?_
  simp only [List.getElem_toArray, List.getElem_cons_zero, List.getElem_cons_succ, Act.put, List.setIfInBounds_toArray, List.set_cons_zero, List.set_cons_succ]
  refine rg_one 13 (by kernel_rfl) (rs_of rfl rfl (wp_call rfl enters_do rfl (HD1.out _ (Lib.hid HI.out.drew.pr.err)) (fun w1 hw1 => ⟨⟨_, (HI.out.drew.ste hw1).pr⟩, ?_⟩)))
  have hJ := HI.out.drew.ste hw1
  clear hS hw1 HI
  simp only [List.getElem_toArray, List.getElem_cons_zero, List.getElem_cons_succ, Act.put, List.setIfInBounds_toArray, List.set_cons_zero, List.set_cons_succ]
  refine rg_one 27 (by kernel_rfl) (rs_of rfl rfl (wp_call rfl enters_do rfl (HD2.out _ (Lib.hid hJ.pr.err)) (fun w2 hw2 => ⟨⟨_, (hJ.ste hw2).pr⟩, ?_⟩)))
  have hI := hJ.ste hw2
  clear hJ hw2
  simp only [List.getElem_toArray, List.getElem_cons_zero, List.getElem_cons_succ, Act.put, List.setIfInBounds_toArray, List.set_cons_zero, List.set_cons_succ]
  have hB2 := hI.hB
  have b1 := st9_but w2 S z1 r1
  have b2 := st9_but (st9 w2 S z1 r1) (S + 1) z2 r2
  have hl : w.heap.size ≤ S := Nat.le_of_eq hI.hw
  refine rg_one 28 (by kernel_rfl) (rs_of rfl rfl (stores_int (.tmp 2) (.tmp 17) rfl rfl rfl hI.i1 ⟨⟨_, hI.pr.but b1 (by omega)⟩, ?_⟩))
  simp only [List.getElem_toArray, List.getElem_cons_zero, List.getElem_cons_succ, Act.put, List.setIfInBounds_toArray, List.set_cons_zero, List.set_cons_succ]
  have i2 := hI.i2.but b1 (by omega)
  have pr := (hI.pr.but b1 (by omega)).but b2 (by omega)
  generalize hw3 : st9 w2 S z1 r1 = w3 at *
  refine rg_one 29 (by kernel_rfl) ?_
  refine rs_of rfl rfl ?_
  refine stores_int (.tmp 3) (.tmp 31) rfl (b := S + 1) (s := z2) (n := r2) rfl rfl i2 ⟨⟨_, pr⟩, ?_⟩
  refine wpAnyH_done (by kernel_rfl) ?_ _
  simp only [List.getElem_toArray, List.getElem_cons_zero, List.getElem_cons_succ, Act.put, List.setIfInBounds_toArray, List.set_cons_zero, List.set_cons_succ]
  go_wp2_with fail
  refine bodyPost_ret (v := .tuple #[intV z1 r1, intV z2 r2]) (results_int2 rfl rfl rfl ((hw3 ▸ st9_at hI.i1 : IntAt w3 S z1 r1).but b2 (by omega)) (st9_at i2)) rfl ⟨rfl, ?_⟩
  exact (hI.st.but b1 hl (by rw [hI.hw]; exact hB2)).but b2 (by rw [hI.hw]; omega) (by rw [hI.hw]; exact hB2)
end Go.Proofs.YtgoemhcngmpfbaaGreatDoor

/-
  Stage 8: 'ratio' of a pair: its error, or the numbers in lowest terms.
-/
namespace Go.Proofs.YtgoemhcngmpfbaaGreatDoor
open Go.RowKit Go.Sort
set_option linter.unusedSimpArgs false

/-- The parts of what Make answers. -/
def mkS (s : Bool) (n : Nat) (t : Bool) (m : Nat) : Bool := if m = 0 then false else sgn (s != t) (n / Nat.gcd n m)
def mkN (n m : Nat) : Nat := if m = 0 then 0 else n / Nat.gcd n m
def mkD (n m : Nat) : Nat := if m = 0 then 0 else m / Nat.gcd n m
def mkK (m : Nat) : Nat := if m = 0 then 10 else 0
theorem makeV_eq (s : Bool) (n : Nat) (t : Bool) (m : Nat) : makeV s n t m = .tuple #[ratV (mkS s n t m) (mkN n m) false (mkD n m), errV (mkK m)] := by
  unfold makeV mkS mkN mkD mkK
  by_cases h : m = 0
  · rw [if_pos h, if_pos h, if_pos h, if_pos h, if_pos h]
  · rw [if_neg h, if_neg h, if_neg h, if_neg h, if_neg h]; rfl
theorem Make_run (s : Bool) (n : Nat) (t : Bool) (m : Nat) (w : World) (hn : Hid (Fits n)) (hm : Hid (Fits m)) :
    Calls Tryz.prog 9 #[intV s n, intV t m] w fun e w' => e = .returned (.tuple #[ratV (mkS s n t m) (mkN n m) false (mkD n m), errV (mkK m)]) ∧ Below w.heap.size w w' := by
  rw [← makeV_eq]
  rcases Nat.eq_zero_or_pos m with h | h
  · subst h; exact Make_zero s n t w
  · exact Make_pos s n t m w hn hm h
/-- What ratio answers behind the error k. -/
def rtS (k : Nat) (s : Bool) (n : Nat) (t : Bool) (m : Nat) : Bool := if k = 0 then mkS s n t m else false
def rtN (k n m : Nat) : Nat := if k = 0 then mkN n m else 0
def rtD (k n m : Nat) : Nat := if k = 0 then mkD n m else 0
def rtK (k m : Nat) : Nat := if k = 0 then mkK m else k
set_option maxRecDepth 100000 in
set_option maxHeartbeats 2000000 in
theorem ratio_run (B k : Nat) (s : Bool) (n : Nat) (t : Bool) (m : Nat) (w : World) (h : Hid (ErrAt w B k)) (hn : Hid (Fits n)) (hm : Hid (Fits m)) :
    Calls Tryz.prog 91 #[.pointer (some ⟨B, 0, none⟩), intV s n, intV t m] w fun e w' => e = .returned (.tuple #[ratV (rtS k s n t m) (rtN k n m) false (rtD k n m), errV (rtK k m)]) ∧ Below w.heap.size w w' := by
  obtain ⟨S, hS⟩ : ∃ S, w.heap.size = S := ⟨_, rfl⟩
  obtain ⟨W, hW⟩ : ∃ W, ((w.alloc (boxI s n 25)).alloc (boxI t m 25)).alloc (boxRZ 27) = W := ⟨_, rfl⟩
  have T := make_boxes w s n t m 25 25 27
  rw [hW] at T
  have HE := Lib.hid (h.out.below T.2.2.2.1)
  rw [hS] at T ⊢
  have hB : B < S := hS ▸ h.out.lt
  have HT := Lib.hid T
  have hWs : W.heap.size = S + 1 + 1 + 1 := T.2.2.2.2
  clear T h
  by_cases hk : k = 0
  · subst hk
    have HM := Lib.hid (fun W => Make_run s n t m W hn hm)
    have e1 : rtS 0 s n t m = mkS s n t m := rfl
    have e2 : rtN 0 n m = mkN n m := rfl
    have e3 : rtD 0 n m = mkD n m := rfl
    have e4 : rtK 0 m = mkK m := rfl
    rw [e1, e2, e3, e4]
    clear e1 e2 e3 e4 hn hm
    generalize mkS s n t m = z at *
    generalize mkN n m = q at *
    generalize mkD n m = p at *
    have hv := errV_one (mkK m)
    generalize errV (mkK m) = v at *
    have HF := Lib.hid (failed_zero B W HE)
    have HWs := Lib.hid hWs
    clear hWs HE hB
    go_enter Tryz.func91, Tryz.ntmps91
    go_wp2_with (first | (refine wpList_box_int rfl (.tmp 1) rfl rfl ?_) | (refine wpList_box_int rfl (.tmp 2) rfl rfl ?_))
    refine HF.out.mono ?_
    rintro e w1 ⟨rfl, rfl⟩
    go_wp2_with (first | (refine wpList_load_int rfl (.tmp 4) rfl rfl HT.out.1.o ?_) | (refine wpList_load_int rfl (.tmp 5) rfl rfl HT.out.2.1.o ?_))
    refine (HM.out _).mono ?_
    rintro e w2 ⟨rfl, hw2⟩
    have R3 := Lib.hid (HT.out.2.2.1.keep hw2 (by rw [HWs.out]; omega))
    have B3 := Lib.hid (HT.out.2.2.2.1.trans (hw2.mono (by rw [HWs.out]; omega)))
    clear hw2 HT HF HM hW
    go_wp2_with (refine wpList_store_rat rfl (.tmp 6) (.tmp 21) rfl (s := z) (n := q) (t := false) (d := p) rfl rfl R3.out ?_)
    refine bodyPost_ret (v := .tuple #[ratV z q false p, v]) (results_rat rfl rfl rfl (st18_at R3.out)) rfl ⟨rfl, ?_⟩
    exact (st18_but w2 (S + 1 + 1) z q false p).2.1 S w (by omega) B3.out
  · have e1 : rtS k s n t m = false := if_neg hk
    have e2 : rtN k n m = 0 := if_neg hk
    have e3 : rtD k n m = 0 := if_neg hk
    have e4 : rtK k m = k := if_neg hk
    rw [e1, e2, e3, e4]
    have HF := Lib.hid (failed_pos B k hk W HE)
    clear hWs e1 e2 e3 e4 hk hn hm
    go_enter Tryz.func91, Tryz.ntmps91
    go_wp2_with (first | (refine wpList_box_int rfl (.tmp 1) rfl rfl ?_) | (refine wpList_box_int rfl (.tmp 2) rfl rfl ?_))
    refine HF.out.mono ?_
    rintro e w1 ⟨rfl, rfl⟩
    go_wp2_with fail
    have bb := st18_but W.drew (S + 1 + 1) false 0 false 0
    refine rg_begin (fun W' => ErrAt W' B k) (by kernel_rfl) HE.out.drew (fun hS => ?_)
    refine rg_take 0 (ratV false 0 false 0) rfl (by kernel_rfl) (by kernel_rfl) (by kernel_rfl) (fun _ _ _ h => h) rfl (fun w _ => ?_) hS ?_
    · rw [ratV_zero]; go_simp
    simp only [List.getElem_toArray, List.getElem_cons_zero, List.getElem_cons_succ, Act.put, List.setIfInBounds_toArray, List.set_cons_zero, List.set_cons_succ]
    refine rg_take 1 (.pointer (some ⟨B, 0, none⟩)) rfl (by kernel_rfl) (by kernel_rfl) (by kernel_rfl) (fun _ _ _ h => h) rfl (fun w _ => ?_) hS ?_
    · go_simp
    simp only [List.getElem_toArray, List.getElem_cons_zero, List.getElem_cons_succ, Act.put, List.setIfInBounds_toArray, List.set_cons_zero, List.set_cons_succ]
    refine rg_take 2 (.pointer (some ⟨B, 0, none⟩)) rfl (by kernel_rfl) (by kernel_rfl) (by kernel_rfl) (fun _ _ _ h => h) rfl (fun w _ => ?_) hS ?_
    · go_simp
    simp only [List.getElem_toArray, List.getElem_cons_zero, List.getElem_cons_succ, Act.put, List.setIfInBounds_toArray, List.set_cons_zero, List.set_cons_succ]
    refine rg_take 3 (.pointer (some ⟨B, 0, none⟩)) rfl (by kernel_rfl) (by kernel_rfl) (by kernel_rfl) (fun _ _ _ h => h) rfl (fun w _ => ?_) hS ?_
    · go_simp
    simp only [List.getElem_toArray, List.getElem_cons_zero, List.getElem_cons_succ, Act.put, List.setIfInBounds_toArray, List.set_cons_zero, List.set_cons_succ]
    refine rg_take 4 (.pointer (some ⟨B, 0, none⟩)) rfl (by kernel_rfl) (by kernel_rfl) (by kernel_rfl) (fun _ _ _ h => h) rfl (fun w _ => ?_) hS ?_
    · go_simp
    simp only [List.getElem_toArray, List.getElem_cons_zero, List.getElem_cons_succ, Act.put, List.setIfInBounds_toArray, List.set_cons_zero, List.set_cons_succ]
    refine rg_take 5 (errV k) rfl (by kernel_rfl) (by kernel_rfl) (by kernel_rfl) (fun _ _ _ h => h) rfl (fun w hSw => ?_) hS ?_
    · have e0 : w.cell? ⟨B, 0, none⟩ = some (errV k) := hSw.cell
      go_simp
    simp only [List.getElem_toArray, List.getElem_cons_zero, List.getElem_cons_succ, Act.put, List.setIfInBounds_toArray, List.set_cons_zero, List.set_cons_succ]
    refine rg_one 6 (by kernel_rfl) (rs_of rfl rfl (stores_rat (.tmp 6) (.tmp 12) rfl (b := S + 1 + 1) (s := false) (n := 0) (t := false) (d := 0) rfl rfl HT.out.2.2.1.drew ⟨hS.but1 bb (by omega), ?_⟩))
    have hS := hS.but1 bb (by omega)
    simp only [List.getElem_toArray, List.getElem_cons_zero, List.getElem_cons_succ, Act.put, List.setIfInBounds_toArray, List.set_cons_zero, List.set_cons_succ]
    refine rg_take 7 (errV k) rfl (by kernel_rfl) (by kernel_rfl) (by kernel_rfl) (fun _ _ _ h => h) rfl (fun w _ => ?_) hS ?_
    · go_simp
    simp only [List.getElem_toArray, List.getElem_cons_zero, List.getElem_cons_succ, Act.put, List.setIfInBounds_toArray, List.set_cons_zero, List.set_cons_succ]
    refine wpAnyH_done (by kernel_rfl) ?_ _
    go_wp2_with fail
    refine bodyPost_ret (v := .tuple #[ratV false 0 false 0, errV k]) (results_rat rfl rfl rfl (st18_at HT.out.2.2.1.drew)) rfl ⟨rfl, ?_⟩
    exact bb.2.1 S w (by omega) HT.out.2.2.2.1.drew
end Go.Proofs.YtgoemhcngmpfbaaGreatDoor
