/-
  Stage 8: the chapter's example: 'works' of the laws.
-/
import Derived.Test.YtgoemhcngmpfbaaGreatDoorMw17
import Derived.Test.YtgoemhcngmpfbaaGreatDoorMw16

namespace Go.Proofs.YtgoemhcngmpfbaaGreatDoor
open Go.RowKit Go.Sort
set_option linter.unusedSimpArgs false

/-- A number's text, as far as it is small. -/
def txt (s : Bool) (n : Nat) : ByteArray := if sgn s n then (⟨#[45]⟩ : ByteArray) ++ decS n else decS n
theorem txt_small (s : Bool) {n : Nat} (h : n < 100) : (txt s n).size ≤ 3 := by
  have := decS_small h
  unfold txt
  split
  · simp [ByteArray.size_append]
    have : (⟨#[45]⟩ : ByteArray).size = 1 := rfl
    omega
  · omega
theorem enters_Text : EntersP Tryz.prog 33 := entersP_of Tryz.func33 (by kernel_rfl) rfl
set_option maxRecDepth 100000 in
set_option maxHeartbeats 4000000 in
theorem RText_small (s : Bool) (n : Nat) (t : Bool) (d : Nat) (hn : n < 100) (hd : d < 100) (hd1 : d ≠ 1) (w : World) :
    Calls Tryz.prog 20 #[ratV s n t d] w fun e w' => e = .returned (.string ((txt s n ++ (⟨#[47]⟩ : ByteArray)) ++ txt t d)) ∧ Below w.heap.size w w' := by
  have hf : ∀ k, k < 100 → Fits k := fun k hk => Nat.lt_of_lt_of_le hk (Nat.le_trans (show 100 ≤ 18446744073709551616 by decide) (Nat.le_self_pow (by decide) _))
  have hfd : Hid (Fits d) := hf d hd
  have HC := Lib.hid (fun W => Canon_run t d W hfd)
  have HO := Lib.hid (fun W => Of_run 1 W (by decide) (by decide))
  have hO : intV (decide ((1 : Int) < 0)) (1 : Int).natAbs = intV false 1 := rfl
  rw [hO] at HO
  have E := fun W => eqInt (sgn t d) d false 1 W hfd.out (hf 1 (by decide))
  rw [decide_eq_false (fun h => hd1 h.2)] at E
  have EG := fun x y W => eqg_int .eql x y (sgn t d) d false 1 W
  have HT1 : Hid (∀ W, Calls Tryz.prog 33 #[intV s n] W fun e w' => e = .returned (.string (txt s n)) ∧ Below W.heap.size W w') := fun W => Text_small s n hn W
  have HT2 : Hid (∀ W, Calls Tryz.prog 33 #[intV t d] W fun e w' => e = .returned (.string (txt t d)) ∧ Below W.heap.size W w') := fun W => Text_small t d hd W
  have hx := txt_small s hn
  have hy := txt_small t hd
  generalize txt s n = x at *
  generalize txt t d = y at *
  generalize sgn t d = z at *
  have hxa : x.size + 1 ≤ 9223372036854775807 := by omega
  have hxb : x.size + 1 + y.size ≤ 9223372036854775807 := by omega
  clear hx hy
  clear hf hfd hO hn hd hd1
  obtain ⟨S, hS⟩ : ∃ S, w.heap.size = S := ⟨_, rfl⟩
  obtain ⟨W, hW⟩ : ∃ W, w.alloc (boxR s n t d 27) = W := ⟨_, rfl⟩
  have T1 := RatAt.new w s n t d 27
  have T2 := below_alloc w (boxR s n t d 27)
  have T3 : (w.alloc (boxR s n t d 27)).heap.size = w.heap.size + 1 := by simp
  rw [hW] at T1 T2 T3
  rw [hS] at T1 T2 T3 ⊢
  have HT := Lib.hid (And.intro T1 (And.intro T2 T3))
  clear T1 T2 T3
  go_enter Tryz.func20, Tryz.ntmps20
  go_wp2_with (first | (with_reducible refine wpList_box_rat rfl (.tmp 0) rfl rfl ?_) | (with_reducible refine wpList_load_int rfl (.tmp 3) rfl rfl HT.out.1.den ?_))
  refine (HC.out _).mono ?_
  rintro e w1 ⟨rfl, hw1⟩
  have hz := HT.out.2.2
  have H1 := Lib.hid (HT.out.1.keep hw1 (by omega))
  have B1 := Lib.hid (HT.out.2.1.trans (hw1.mono (by omega)))
  have z1 : S + 1 ≤ w1.heap.size := Nat.le_trans (Nat.le_of_eq hz.symm) hw1.size
  clear hw1 HT hW HC hz
  go_wp2_with fail
  refine (HO.out _).mono ?_
  rintro e w2 ⟨rfl, hw2⟩
  have H2 := Lib.hid (H1.out.keep hw2 (by omega))
  have B2 := Lib.hid (B1.out.trans (hw2.mono (by omega)))
  have z2 : S + 1 ≤ w2.heap.size := Nat.le_trans z1 hw2.size
  clear hw2 H1 B1 HO z1
  go_wp2_with fail
  refine rg_begin (fun W' => RatAt W' S s n t d) (by kernel_rfl) H2.out.drew (fun hS => ?_)
  refine rg_take 0 (.pointer (some ⟨S, 0, none⟩)) rfl (by kernel_rfl) (by kernel_rfl) (by kernel_rfl) (fun _ _ _ h => h) rfl (fun w _ => ?_) hS ?_
  · go_simp
  simp only [List.getElem_toArray, List.getElem_cons_zero, List.getElem_cons_succ, Act.put, List.setIfInBounds_toArray, List.set_cons_zero, List.set_cons_succ]
  refine rg_take 1 (intV s n) rfl (by kernel_rfl) (by kernel_rfl) (by kernel_rfl) (fun _ _ _ h => h) rfl (fun w hSw => ld_int (.tmp 11) rfl rfl hSw.num) hS ?_
  simp only [List.getElem_toArray, List.getElem_cons_zero, List.getElem_cons_succ, Act.put, List.setIfInBounds_toArray, List.set_cons_zero, List.set_cons_succ]
  refine rg_take 4 (.pointer (some ⟨S, 9, none⟩)) rfl (by kernel_rfl) (by kernel_rfl) (by kernel_rfl) (fun _ _ _ h => h) rfl (fun w _ => ?_) hS ?_
  · go_simp
  simp only [List.getElem_toArray, List.getElem_cons_zero, List.getElem_cons_succ, Act.put, List.setIfInBounds_toArray, List.set_cons_zero, List.set_cons_succ]
  refine rg_take 5 (intV t d) rfl (by kernel_rfl) (by kernel_rfl) (by kernel_rfl) (fun _ _ _ h => h) rfl (fun w hSw => ld_int (.tmp 15) rfl rfl hSw.den) hS ?_
  simp only [List.getElem_toArray, List.getElem_cons_zero, List.getElem_cons_succ, Act.put, List.setIfInBounds_toArray, List.set_cons_zero, List.set_cons_succ]
  have hz2 : S + 1 ≤ w2.drew.heap.size := z2
  refine rg_one 2 (by kernel_rfl) (rs_of rfl rfl (wp_call rfl enters_Text rfl (HT1.out _) (fun w3 hw3 => ⟨hS.keep hw3 (by omega), ?_⟩)))
  have hS3 := hS.keep hw3 (by omega)
  have B3 := Lib.hid (B2.out.drew.trans (hw3.mono (by omega)))
  have z3 := Nat.le_trans hz2 hw3.size
  clear hS hw3 hz2 B2 H2
  simp only [List.getElem_toArray, List.getElem_cons_zero, List.getElem_cons_succ, Act.put, List.setIfInBounds_toArray, List.set_cons_zero, List.set_cons_succ]
  have hS := hS3
  refine rg_take 3 (.string (x ++ (⟨#[47]⟩ : ByteArray))) rfl (by kernel_rfl) (by kernel_rfl) (by kernel_rfl) (fun _ _ _ h => h) rfl (fun w _ => ?_) hS ?_
  · go_simp
  simp only [List.getElem_toArray, List.getElem_cons_zero, List.getElem_cons_succ, Act.put, List.setIfInBounds_toArray, List.set_cons_zero, List.set_cons_succ]
  refine rg_one 6 (by kernel_rfl) (rs_of rfl rfl (wp_call rfl enters_Text rfl (HT2.out _) (fun w4 hw4 => ⟨hS.keep hw4 (by omega), ?_⟩)))
  have hS4 := hS3.keep hw4 (by omega)
  have B4 := Lib.hid (B3.out.trans (hw4.mono (by omega)))
  clear hS hS3 hw4 B3
  simp only [List.getElem_toArray, List.getElem_cons_zero, List.getElem_cons_succ, Act.put, List.setIfInBounds_toArray, List.set_cons_zero, List.set_cons_succ]
  have hS := hS4
  refine rg_take 7 (.string ((x ++ (⟨#[47]⟩ : ByteArray)) ++ y)) rfl (by kernel_rfl) (by kernel_rfl) (by kernel_rfl) (fun _ _ _ h => h) rfl (fun w _ => ?_) hS ?_
  · go_simp
  simp only [List.getElem_toArray, List.getElem_cons_zero, List.getElem_cons_succ, Act.put, List.setIfInBounds_toArray, List.set_cons_zero, List.set_cons_succ]
  refine rg_take 8 (.string ((x ++ (⟨#[47]⟩ : ByteArray)) ++ y)) rfl (by kernel_rfl) (by kernel_rfl) (by kernel_rfl) (fun _ _ _ h => h) rfl (fun w _ => ?_) hS ?_
  · go_simp
  simp only [List.getElem_toArray, List.getElem_cons_zero, List.getElem_cons_succ, Act.put, List.setIfInBounds_toArray, List.set_cons_zero, List.set_cons_succ]
  refine wpAnyH_done (by kernel_rfl) ?_ _
  go_wp2_with fail
  go_ret
  exact ⟨rfl, B4.out⟩
theorem make_half : (Value.tuple #[ratV (mkS false 1 false 2) (mkN 1 2) false (mkD 1 2), errV (mkK 2)]) = .tuple #[ratV false 1 false 2, .nilIface] := rfl
theorem make_third : (Value.tuple #[ratV (mkS false 1 false 3) (mkN 1 3) false (mkD 1 3), errV (mkK 3)]) = .tuple #[ratV false 1 false 3, .nilIface] := rfl
theorem make_less : (Value.tuple #[ratV (mkS true 7 false 2) (mkN 7 2) false (mkD 7 2), errV (mkK 2)]) = .tuple #[ratV true 7 false 2, .nilIface] := rfl
set_option maxRecDepth 100000 in
theorem add_ex : addV false 1 false 2 false 1 false 3 = .tuple #[ratV false 5 false 6, .nilIface] := by
  have h1 : crLN 0 1 3 = 3 := rfl
  have h2 : crRN 0 1 3 1 2 = 2 := rfl
  rfl
theorem tr_ex : (Value.tuple #[intV (trS true 7 false 2) (trN true 7 false 2), errV (chk true 7 false 2)]) = .tuple #[intV true 3, .nilIface] := rfl
/-- A ratio put into a box of its own. -/
theorem put_rat (w : World) (s : Bool) (n : Nat) (t : Bool) (d : Nat) (T : TypeId) : RatAt (st18 (w.alloc (boxRZ T)) w.heap.size s n t d) w.heap.size s n t d ∧ Below w.heap.size w (st18 (w.alloc (boxRZ T)) w.heap.size s n t d) ∧ (st18 (w.alloc (boxRZ T)) w.heap.size s n t d).heap.size = w.heap.size + 1 :=
  ⟨st18_at (RatAt.zero w T), (st18_but _ _ s n t d).2.1 _ w (Nat.le_refl _) (below_alloc w _), by rw [(st18_but _ _ s n t d).2.2]; simp⟩
theorem put_int (w : World) (s : Bool) (n : Nat) (T : TypeId) : IntAt (st9 (w.alloc (boxIZ T)) w.heap.size s n) w.heap.size s n ∧ Below w.heap.size w (st9 (w.alloc (boxIZ T)) w.heap.size s n) ∧ (st9 (w.alloc (boxIZ T)) w.heap.size s n).heap.size = w.heap.size + 1 :=
  ⟨st9_at (IntAt.zero w T), (st9_but _ _ s n).2.1 _ w (Nat.le_refl _) (below_alloc w _), by rw [(st9_but _ _ s n).2.2]; simp⟩
theorem txt_56 : ((txt false 5 ++ (⟨#[47]⟩ : ByteArray)) ++ txt false 6) = ⟨#[53, 47, 54]⟩ := by
  have h5 : Lib.decDigits 5 = [53] := by rw [Lib.decDigits]; rfl
  have h6 : Lib.decDigits 6 = [54] := by rw [Lib.decDigits]; rfl
  unfold txt decS
  rw [h5, h6]
  rfl
theorem txt_3 : txt true 3 = ⟨#[45, 51]⟩ := by
  have h3 : Lib.decDigits 3 = [51] := by rw [Lib.decDigits]; rfl
  unfold txt decS
  rw [h3]
  rfl
set_option maxRecDepth 100000 in
set_option maxHeartbeats 8000000 in
theorem works_run (w : World) : Calls Tryz.prog 22 #[] w fun e w' => e = .returned (.bool true) ∧ Below w.heap.size w w' := by
  have hf : ∀ k, k < 100 → Hid (Fits k) := fun k hk => Nat.lt_of_lt_of_le hk (Nat.le_trans (show 100 ≤ 18446744073709551616 by decide) (Nat.le_self_pow (by decide) _))
  have O1 : Hid (∀ W, Calls Tryz.prog 52 #[.int .i64 1] W fun e w' => e = .returned (intV false 1) ∧ Below W.heap.size W w') := fun W => Of_run 1 W (by decide) (by decide)
  have O2 : Hid (∀ W, Calls Tryz.prog 52 #[.int .i64 2] W fun e w' => e = .returned (intV false 2) ∧ Below W.heap.size W w') := fun W => Of_run 2 W (by decide) (by decide)
  have O3 : Hid (∀ W, Calls Tryz.prog 52 #[.int .i64 3] W fun e w' => e = .returned (intV false 3) ∧ Below W.heap.size W w') := fun W => Of_run 3 W (by decide) (by decide)
  have O7 : Hid (∀ W, Calls Tryz.prog 52 #[.int .i64 (-7)] W fun e w' => e = .returned (intV true 7) ∧ Below W.heap.size W w') := fun W => Of_run (-7) W (by decide) (by decide)
  have M1 : Hid (∀ W, Calls Tryz.prog 9 #[intV false 1, intV false 2] W fun e w' => e = .returned (.tuple #[ratV false 1 false 2, .nilIface]) ∧ Below W.heap.size W w') := fun W => by
    have := Make_run false 1 false 2 W (hf 1 (by decide)) (hf 2 (by decide))
    rwa [make_half] at this
  have M2 : Hid (∀ W, Calls Tryz.prog 9 #[intV false 1, intV false 3] W fun e w' => e = .returned (.tuple #[ratV false 1 false 3, .nilIface]) ∧ Below W.heap.size W w') := fun W => by
    have := Make_run false 1 false 3 W (hf 1 (by decide)) (hf 3 (by decide))
    rwa [make_third] at this
  have M3 : Hid (∀ W, Calls Tryz.prog 9 #[intV true 7, intV false 2] W fun e w' => e = .returned (.tuple #[ratV true 7 false 2, .nilIface]) ∧ Below W.heap.size W w') := fun W => by
    have := Make_run true 7 false 2 W (hf 7 (by decide)) (hf 2 (by decide))
    rwa [make_less] at this
  have A1 : Hid (∀ W, Calls Tryz.prog 54 #[ratV false 1 false 2, ratV false 1 false 3] W fun e w' => e = .returned (.tuple #[ratV false 5 false 6, .nilIface]) ∧ Below W.heap.size W w') := fun W => by
    have := RAdd_run false 1 false 2 false 1 false 3 W (hf 1 (by decide)) (hf 2 (by decide)) (hf 1 (by decide)) (hf 3 (by decide))
    rwa [add_ex] at this
  have R1 : Hid (∀ W, Calls Tryz.prog 11 #[ratV true 7 false 2] W fun e w' => e = .returned (.tuple #[intV true 3, .nilIface]) ∧ Below W.heap.size W w') := fun W => by
    have := Trunc_run true 7 false 2 W (hf 7 (by decide)) (hf 2 (by decide))
    rwa [tr_ex] at this
  have X1 : Hid (∀ W, Calls Tryz.prog 20 #[ratV false 5 false 6] W fun e w' => e = .returned (.string ⟨#[53, 47, 54]⟩) ∧ Below W.heap.size W w') := fun W => by
    have := RText_small false 5 false 6 (by decide) (by decide) (by decide) W
    rwa [txt_56] at this
  have X2 : Hid (∀ W, Calls Tryz.prog 33 #[intV true 3] W fun e w' => e = .returned (.string ⟨#[45, 51]⟩) ∧ Below W.heap.size W w') := fun W => by
    have := Text_small true 3 (by decide) W
    change Calls _ _ _ _ (fun e w' => e = .returned (.string (txt true 3)) ∧ _) at this
    rwa [txt_3] at this
  clear hf
  obtain ⟨S, hS⟩ : ∃ S, w.heap.size = S := ⟨_, rfl⟩
  rw [hS]
  have HS : Hid (w.heap.size = S) := hS
  go_enter Tryz.func22, Tryz.ntmps22
  go_wp2_with fail
  refine (O1.out _).mono ?_
  rintro e u1 ⟨rfl, hu1⟩
  have Bu1 : Hid (Below S w u1) := by have := HS.out; exact this ▸ hu1
  have Bu1s : S ≤ u1.heap.size := by have := Bu1.out.size; have := HS.out; omega
  clear hu1
  go_wp2_with fail
  refine (O2.out _).mono ?_
  rintro e u2 ⟨rfl, hu2⟩
  have Bu2 := Lib.hid (Bu1.out.trans (hu2.mono Bu1s))
  have Bu2s : S ≤ u2.heap.size := by have := Bu2.out.size; have := HS.out; omega
  clear hu2 Bu1 Bu1s
  go_wp2_with fail
  refine (M1.out _).mono ?_
  rintro e u3 ⟨rfl, hu3⟩
  have Bu3 := Lib.hid (Bu2.out.trans (hu3.mono Bu2s))
  have Bu3s : S ≤ u3.heap.size := by have := Bu3.out.size; have := HS.out; omega
  clear hu3 Bu2 Bu2s
  have Pv1 := put_rat u3 false 1 false 2 27
  obtain ⟨LA, hLA⟩ : ∃ LA, u3.heap.size = LA := ⟨_, rfl⟩
  have Zv1 := RatAt.zero u3 27
  obtain ⟨av1, hav1⟩ : ∃ a, u3.alloc (boxRZ 27) = a := ⟨_, rfl⟩
  rw [hav1, hLA] at Pv1 Zv1
  have HZv1 := Lib.hid Zv1
  have hqv1 := Bu3s
  rw [hLA] at hqv1
  have Bv1' := Lib.hid (Bu3.out.trans (Pv1.2.1.mono hqv1))
  have Nv1 := Lib.hid Pv1.1
  have zv1 := Lib.hid Pv1.2.2
  clear Pv1 Zv1 Bu3 Bu3s
  go_upto_region 2 with (with_reducible refine wpList_store_rat rfl (.tmp 1) (.tmp 15) rfl (b := LA) (s := false) (n := 1) (t := false) (d := 2) rfl rfl HZv1.out ?_)
  clear HZv1
  generalize st18 av1 LA false 1 false 2 = v1 at *
  have RAv1 := Nv1
  have Bv1 := Bv1'
  have yv1 := zv1.out
  have Bv1s : S ≤ v1.heap.size := by omega
  have LAlv1 : LA < v1.heap.size := by omega
  clear yv1
  clear Nv1 Bv1' hav1 hLA zv1 hqv1
  go_wp2_with fail
  refine (O1.out _).mono ?_
  rintro e u4 ⟨rfl, hu4⟩
  have Bu4 := Lib.hid (Bv1.out.trans (hu4.mono Bv1s))
  have Bu4s : S ≤ u4.heap.size := by have := Bu4.out.size; have := HS.out; omega
  have RAu4 := Lib.hid (RAv1.out.keep hu4 LAlv1)
  have LAlu4 := Nat.lt_of_lt_of_le LAlv1 hu4.size
  clear hu4 Bv1 Bv1s RAv1 LAlv1
  go_wp2_with fail
  refine (O3.out _).mono ?_
  rintro e u5 ⟨rfl, hu5⟩
  have Bu5 := Lib.hid (Bu4.out.trans (hu5.mono Bu4s))
  have Bu5s : S ≤ u5.heap.size := by have := Bu5.out.size; have := HS.out; omega
  have RAu5 := Lib.hid (RAu4.out.keep hu5 LAlu4)
  have LAlu5 := Nat.lt_of_lt_of_le LAlu4 hu5.size
  clear hu5 Bu4 Bu4s RAu4 LAlu4
  go_wp2_with fail
  refine (M2.out _).mono ?_
  rintro e u6 ⟨rfl, hu6⟩
  have Bu6 := Lib.hid (Bu5.out.trans (hu6.mono Bu5s))
  have Bu6s : S ≤ u6.heap.size := by have := Bu6.out.size; have := HS.out; omega
  have RAu6 := Lib.hid (RAu5.out.keep hu6 LAlu5)
  have LAlu6 := Nat.lt_of_lt_of_le LAlu5 hu6.size
  clear hu6 Bu5 Bu5s RAu5 LAlu5
  have Pv2 := put_rat u6 false 1 false 3 27
  obtain ⟨LB, hLB⟩ : ∃ LB, u6.heap.size = LB := ⟨_, rfl⟩
  have Zv2 := RatAt.zero u6 27
  obtain ⟨av2, hav2⟩ : ∃ a, u6.alloc (boxRZ 27) = a := ⟨_, rfl⟩
  rw [hav2, hLB] at Pv2 Zv2
  have HZv2 := Lib.hid Zv2
  have hqv2 := Bu6s
  rw [hLB] at hqv2
  have qRAv2 := LAlu6
  rw [hLB] at qRAv2
  have Bv2' := Lib.hid (Bu6.out.trans (Pv2.2.1.mono hqv2))
  have RAv2' := Lib.hid (RAu6.out.keep Pv2.2.1 qRAv2)
  have Nv2 := Lib.hid Pv2.1
  have zv2 := Lib.hid Pv2.2.2
  clear Pv2 Zv2 Bu6 Bu6s RAu6 LAlu6
  go_upto_region 3 with (with_reducible refine wpList_store_rat rfl (.tmp 3) (.tmp 21) rfl (b := LB) (s := false) (n := 1) (t := false) (d := 3) rfl rfl HZv2.out ?_)
  clear HZv2
  generalize st18 av2 LB false 1 false 3 = v2 at *
  have RBv2 := Nv2
  have Bv2 := Bv2'
  have yv2 := zv2.out
  have Bv2s : S ≤ v2.heap.size := by omega
  have LBlv2 : LB < v2.heap.size := by omega
  have RAv2 := RAv2'
  have LAlv2 : LA < v2.heap.size := by omega
  clear yv2
  clear Nv2 Bv2' hav2 hLB zv2 hqv2 RAv2' qRAv2
  go_wp2_with (first | (with_reducible refine wpList_load_rat rfl (.tmp 1) rfl rfl RAv2.out ?_) | (with_reducible refine wpList_load_rat rfl (.tmp 3) rfl rfl RBv2.out ?_))
  refine (A1.out _).mono ?_
  rintro e u7 ⟨rfl, hu7⟩
  have Bu7 := Lib.hid (Bv2.out.trans (hu7.mono Bv2s))
  have Bu7s : S ≤ u7.heap.size := by have := Bu7.out.size; have := HS.out; omega
  clear hu7 Bv2 Bv2s RAv2 RBv2 LAlv2 LBlv2
  have Pv3 := put_rat u7 false 5 false 6 27
  obtain ⟨LC, hLC⟩ : ∃ LC, u7.heap.size = LC := ⟨_, rfl⟩
  have Zv3 := RatAt.zero u7 27
  obtain ⟨av3, hav3⟩ : ∃ a, u7.alloc (boxRZ 27) = a := ⟨_, rfl⟩
  rw [hav3, hLC] at Pv3 Zv3
  have HZv3 := Lib.hid Zv3
  have hqv3 := Bu7s
  rw [hLC] at hqv3
  have Bv3' := Lib.hid (Bu7.out.trans (Pv3.2.1.mono hqv3))
  have Nv3 := Lib.hid Pv3.1
  have zv3 := Lib.hid Pv3.2.2
  clear Pv3 Zv3 Bu7 Bu7s
  go_upto_region 4 with (with_reducible refine wpList_store_rat rfl (.tmp 5) (.tmp 27) rfl (b := LC) (s := false) (n := 5) (t := false) (d := 6) rfl rfl HZv3.out ?_)
  clear HZv3
  generalize st18 av3 LC false 5 false 6 = v3 at *
  have RCv3 := Nv3
  have Bv3 := Bv3'
  have yv3 := zv3.out
  have Bv3s : S ≤ v3.heap.size := by omega
  have LClv3 : LC < v3.heap.size := by omega
  clear yv3
  clear Nv3 Bv3' hav3 hLC zv3 hqv3
  go_wp2_with fail
  refine (O7.out _).mono ?_
  rintro e u8 ⟨rfl, hu8⟩
  have Bu8 := Lib.hid (Bv3.out.trans (hu8.mono Bv3s))
  have Bu8s : S ≤ u8.heap.size := by have := Bu8.out.size; have := HS.out; omega
  have RCu8 := Lib.hid (RCv3.out.keep hu8 LClv3)
  have LClu8 := Nat.lt_of_lt_of_le LClv3 hu8.size
  clear hu8 Bv3 Bv3s RCv3 LClv3
  go_wp2_with fail
  refine (O2.out _).mono ?_
  rintro e u9 ⟨rfl, hu9⟩
  have Bu9 := Lib.hid (Bu8.out.trans (hu9.mono Bu8s))
  have Bu9s : S ≤ u9.heap.size := by have := Bu9.out.size; have := HS.out; omega
  have RCu9 := Lib.hid (RCu8.out.keep hu9 LClu8)
  have LClu9 := Nat.lt_of_lt_of_le LClu8 hu9.size
  clear hu9 Bu8 Bu8s RCu8 LClu8
  go_wp2_with fail
  refine (M3.out _).mono ?_
  rintro e u10 ⟨rfl, hu10⟩
  have Bu10 := Lib.hid (Bu9.out.trans (hu10.mono Bu9s))
  have Bu10s : S ≤ u10.heap.size := by have := Bu10.out.size; have := HS.out; omega
  have RCu10 := Lib.hid (RCu9.out.keep hu10 LClu9)
  have LClu10 := Nat.lt_of_lt_of_le LClu9 hu10.size
  clear hu10 Bu9 Bu9s RCu9 LClu9
  have Pv4 := put_rat u10 true 7 false 2 27
  obtain ⟨LD, hLD⟩ : ∃ LD, u10.heap.size = LD := ⟨_, rfl⟩
  have Zv4 := RatAt.zero u10 27
  obtain ⟨av4, hav4⟩ : ∃ a, u10.alloc (boxRZ 27) = a := ⟨_, rfl⟩
  rw [hav4, hLD] at Pv4 Zv4
  have HZv4 := Lib.hid Zv4
  have hqv4 := Bu10s
  rw [hLD] at hqv4
  have qRCv4 := LClu10
  rw [hLD] at qRCv4
  have Bv4' := Lib.hid (Bu10.out.trans (Pv4.2.1.mono hqv4))
  have RCv4' := Lib.hid (RCu10.out.keep Pv4.2.1 qRCv4)
  have Nv4 := Lib.hid Pv4.1
  have zv4 := Lib.hid Pv4.2.2
  clear Pv4 Zv4 Bu10 Bu10s RCu10 LClu10
  go_upto_region 5 with (with_reducible refine wpList_store_rat rfl (.tmp 7) (.tmp 33) rfl (b := LD) (s := true) (n := 7) (t := false) (d := 2) rfl rfl HZv4.out ?_)
  clear HZv4
  generalize st18 av4 LD true 7 false 2 = v4 at *
  have RDv4 := Nv4
  have Bv4 := Bv4'
  have yv4 := zv4.out
  have Bv4s : S ≤ v4.heap.size := by omega
  have LDlv4 : LD < v4.heap.size := by omega
  have RCv4 := RCv4'
  have LClv4 : LC < v4.heap.size := by omega
  clear yv4
  clear Nv4 Bv4' hav4 hLD zv4 hqv4 RCv4' qRCv4
  go_wp2_with (with_reducible refine wpList_load_rat rfl (.tmp 7) rfl rfl RDv4.out ?_)
  refine (R1.out _).mono ?_
  rintro e u11 ⟨rfl, hu11⟩
  have Bu11 := Lib.hid (Bv4.out.trans (hu11.mono Bv4s))
  have Bu11s : S ≤ u11.heap.size := by have := Bu11.out.size; have := HS.out; omega
  have RCu11 := Lib.hid (RCv4.out.keep hu11 LClv4)
  have LClu11 := Nat.lt_of_lt_of_le LClv4 hu11.size
  clear hu11 Bv4 Bv4s RCv4 LClv4
  have Pv5 := put_int u11 true 3 25
  obtain ⟨LE, hLE⟩ : ∃ LE, u11.heap.size = LE := ⟨_, rfl⟩
  have Zv5 := IntAt.zero u11 25
  obtain ⟨av5, hav5⟩ : ∃ a, u11.alloc (boxIZ 25) = a := ⟨_, rfl⟩
  rw [hav5, hLE] at Pv5 Zv5
  have HZv5 := Lib.hid Zv5
  have hqv5 := Bu11s
  rw [hLE] at hqv5
  have qRCv5 := LClu11
  rw [hLE] at qRCv5
  have Bv5' := Lib.hid (Bu11.out.trans (Pv5.2.1.mono hqv5))
  have RCv5' := Lib.hid (RCu11.out.keep Pv5.2.1 qRCv5)
  have Nv5 := Lib.hid Pv5.1
  have zv5 := Lib.hid Pv5.2.2
  clear Pv5 Zv5 Bu11 Bu11s RCu11 LClu11
  go_upto_region 6 with (with_reducible refine wpList_store_int rfl (.tmp 9) (.tmp 38) rfl (b := LE) (s := true) (n := 3) rfl rfl HZv5.out ?_)
  clear HZv5
  generalize st9 av5 LE true 3 = v5 at *
  have REv5 := Nv5
  have Bv5 := Bv5'
  have yv5 := zv5.out
  have Bv5s : S ≤ v5.heap.size := by omega
  have LElv5 : LE < v5.heap.size := by omega
  have RCv5 := RCv5'
  have LClv5 : LC < v5.heap.size := by omega
  clear yv5
  clear Nv5 Bv5' hav5 hLE zv5 hqv5 RCv5' qRCv5
  go_wp2_with ((with_reducible refine wpList_load_rat_w ?hw1 (.tmp 5) rfl rfl RCv5.out ?_); case hw1 => rfl)
  refine (X1.out _).mono ?_
  rintro e u12 ⟨rfl, hu12⟩
  have B12 := Lib.hid (Bv5.out.trans (hu12.mono Bv5s))
  have B12s : S ≤ u12.heap.size := Nat.le_trans Bv5s hu12.size
  have RE12 := Lib.hid (REv5.out.keep hu12 LElv5)
  clear hu12 Bv5 Bv5s RCv5 REv5
  go_wp2_with ((with_reducible refine wpList_load_int_w ?hw2 (.tmp 9) rfl rfl RE12.out.o ?_); case hw2 => rfl)
  refine (X2.out _).mono ?_
  rintro e u13 ⟨rfl, hu13⟩
  have B13 := Lib.hid (B12.out.trans (hu13.mono B12s))
  clear hu13 B12
  go_wp2_with fail
  go_ret
  exact ⟨rfl, B13.out⟩
end Go.Proofs.YtgoemhcngmpfbaaGreatDoor

/-
  Stage 8: ratio's Sub.
-/
namespace Go.Proofs.YtgoemhcngmpfbaaGreatDoor
open Go.RowKit Go.Sort
set_option linter.unusedSimpArgs false

/-- Sub's answer. -/
def subZ (s : Bool) (n : Nat) (t : Bool) (d : Nat) (s' : Bool) (n' : Nat) (t' : Bool) (d' : Nat) (k : Nat) : Bool := addS (crLS k s n t' d') (crLN k n d') (sgn (!crRS k n d' s' n' t d) (crRN k n d' n' d)) (crRN k n d' n' d)
def subR (s : Bool) (n : Nat) (t : Bool) (d : Nat) (s' : Bool) (n' : Nat) (t' : Bool) (d' : Nat) (k : Nat) : Nat := addN (crLS k s n t' d') (crLN k n d') (sgn (!crRS k n d' s' n' t d) (crRN k n d' n' d)) (crRN k n d' n' d)
def subV (s : Bool) (n : Nat) (t : Bool) (d : Nat) (s' : Bool) (n' : Nat) (t' : Bool) (d' : Nat) : Value :=
  opV (crK (kept (chk s n t d) (chk s' n' t' d')) n d n' d') (resS (subZ s n t d s' n' t' d' (kept (chk s n t d) (chk s' n' t' d'))) (subR s n t d s' n' t' d' (kept (chk s n t d) (chk s' n' t' d')))) (resN (subR s n t d s' n' t' d' (kept (chk s n t d) (chk s' n' t' d')))) (resK (subR s n t d s' n' t' d' (kept (chk s n t d) (chk s' n' t' d')))) (resS (t != t') (d * d')) (resN (d * d')) (resK (d * d'))
end Go.Proofs.YtgoemhcngmpfbaaGreatDoor

/-
  Stage 8: ratio's Mul.
-/
namespace Go.Proofs.YtgoemhcngmpfbaaGreatDoor
open Go.RowKit Go.Sort
set_option linter.unusedSimpArgs false

/-- Mul's and Quo's answers. -/
def mulV (s : Bool) (n : Nat) (t : Bool) (d : Nat) (s' : Bool) (n' : Nat) (t' : Bool) (d' : Nat) : Value :=
  opV (kept (chk s n t d) (chk s' n' t' d')) (resS (s != s') (n * n')) (resN (n * n')) (resK (n * n')) (resS (t != t') (d * d')) (resN (d * d')) (resK (d * d'))
def quoV (s : Bool) (n : Nat) (t : Bool) (d : Nat) (s' : Bool) (n' : Nat) (t' : Bool) (d' : Nat) : Value :=
  opV (kept (kept (chk s n t d) (chk s' n' t' d')) (if n' = 0 then 10 else 0)) (resS (s != t') (n * d')) (resN (n * d')) (resK (n * d')) (resS (t != s') (d * n')) (resN (d * n')) (resK (d * n'))
set_option maxRecDepth 100000 in
set_option maxHeartbeats 4000000 in
theorem RMul_run (s : Bool) (n : Nat) (t : Bool) (d : Nat) (s' : Bool) (n' : Nat) (t' : Bool) (d' : Nat) (w : World) (hn : Hid (Fits n)) (hd : Hid (Fits d)) (hn' : Hid (Fits n')) (hd' : Hid (Fits d')) :
    Calls Tryz.prog 110 #[ratV s n t d, ratV s' n' t' d'] w fun e w' => e = .returned (mulV s n t d s' n' t' d') ∧ Below w.heap.size w w' := by
  obtain ⟨S, hS⟩ : ∃ S, w.heap.size = S := ⟨_, rfl⟩
  obtain ⟨W, hW⟩ : ∃ W, ((w.alloc (boxR s n t d 27)).alloc (boxR s' n' t' d' 27)).alloc (boxRZ 27) = W := ⟨_, rfl⟩
  have T := op_boxes w s n t d s' n' t' d' 27
  rw [hW, hS] at T
  rw [hS]
  have HT := Lib.hid T
  have hWs := Lib.hid T.2.2.2.2
  clear T
  have HBG := Lib.hid (fun W => begin_run s n t d s' n' t' d' W hn hd hn' hd')
  unfold mulV
  generalize kept (chk s n t d) (chk s' n' t' d') = k0 at *
  have HD1 : Hid (∀ W B, Hid (ErrAt W B k0) → Calls Tryz.prog 39 #[.pointer (some ⟨B, 0, none⟩), fnV 93, intV s n, intV s' n'] W fun e w' => e = .returned (intV (doS k0 (resS (s != s') (n * n'))) (doN k0 (resN (n * n')))) ∧ Ste W w' B (kept k0 (resK (n * n')))) := fun W B h => do_mul B k0 s n s' n' W h hn hn'
  have hf3 : Hid (Fits (doN k0 (resN (n * n')))) := doN_fits _ (resN_fits _)
  unfold opV
  generalize resK (n * n') = j3 at *
  generalize doS k0 (resS (s != s') (n * n')) = z3 at *
  generalize doN k0 (resN (n * n')) = r3 at *
  have HD2 : Hid (∀ W B, Hid (ErrAt W B (kept k0 j3)) → Calls Tryz.prog 39 #[.pointer (some ⟨B, 0, none⟩), fnV 93, intV t d, intV t' d'] W fun e w' => e = .returned (intV (doS (kept k0 j3) (resS (t != t') (d * d'))) (doN (kept k0 j3) (resN (d * d')))) ∧ Ste W w' B (kept (kept k0 j3) (resK (d * d')))) := fun W B h => do_mul B (kept k0 j3) t d t' d' W h hd hd'
  have hf4 : Hid (Fits (doN (kept k0 j3) (resN (d * d')))) := doN_fits _ (resN_fits _)
  generalize resK (d * d') = j4 at *
  generalize doS (kept k0 j3) (resS (t != t') (d * d')) = z4 at *
  generalize doN (kept k0 j3) (resN (d * d')) = r4 at *
  have HR := Lib.hid (fun W B (h : Hid (ErrAt W B (kept (kept k0 j3) j4))) => ratio_run B (kept (kept k0 j3) j4) z3 r3 z4 r4 W h hf3 hf4)
  generalize rtS (kept (kept k0 j3) j4) z3 r3 z4 r4 = z5 at *
  generalize rtN (kept (kept k0 j3) j4) r3 r4 = q5 at *
  generalize rtD (kept (kept k0 j3) j4) r3 r4 = p5 at *
  generalize errV (rtK (kept (kept k0 j3) j4) r4) = v5 at *
  clear hn hd hn' hd'
  go_enter Tryz.func110, Tryz.ntmps110
  go_wp2_with (first | (refine wpList_box_rat rfl (.tmp 0) rfl rfl ?_) | (refine wpList_box_rat rfl (.tmp 1) rfl rfl ?_) | (refine wpList_load_rat rfl (.tmp 2) rfl rfl HT.out.1 ?_) | (refine wpList_load_rat rfl (.tmp 3) rfl rfl HT.out.2.1 ?_))
  refine (HBG.out _).mono ?_
  rintro e w1 ⟨B, rfl, hB, hP, hw1⟩
  have hI1 : OpInv w w1 S B k0 s n t d s' n' t' d' := by
    have hz := hWs.out
    exact ⟨HT.out.1.keep hw1 (by omega), HT.out.2.1.keep hw1 (by omega), HT.out.2.2.1.keep hw1 (by omega), hP.err, HT.out.2.2.2.1.trans (hw1.mono (by omega)), by omega, hP.err.lt⟩
  have hSB := hI1.hB
  have HI4 := Lib.hid hI1
  clear hI1 hP hw1 hB hW HT hWs HBG
  go_wp2_with fail
  refine rg_begin (fun W' => RatAt W' S s n t d ∧ RatAt W' (S + 1) s' n' t' d') (by kernel_rfl) ⟨HI4.out.ra.drew, HI4.out.rb.drew⟩ (fun hS => ?_)
  refine rg_take 0 (.pointer (some ⟨B, 0, none⟩)) rfl (by kernel_rfl) (by kernel_rfl) (by kernel_rfl) (fun _ _ _ h => h) rfl (fun w _ => ?_) hS ?_
  · go_simp
  simp only [List.getElem_toArray, List.getElem_cons_zero, List.getElem_cons_succ, Act.put, List.setIfInBounds_toArray, List.set_cons_zero, List.set_cons_succ]
  refine rg_take 1 (.pointer (some ⟨B, 0, none⟩)) rfl (by kernel_rfl) (by kernel_rfl) (by kernel_rfl) (fun _ _ _ h => h) rfl (fun w _ => ?_) hS ?_
  · go_simp
  simp only [List.getElem_toArray, List.getElem_cons_zero, List.getElem_cons_succ, Act.put, List.setIfInBounds_toArray, List.set_cons_zero, List.set_cons_succ]
  refine rg_take 2 (.pointer (some ⟨B, 0, none⟩)) rfl (by kernel_rfl) (by kernel_rfl) (by kernel_rfl) (fun _ _ _ h => h) rfl (fun w _ => ?_) hS ?_
  · go_simp
  simp only [List.getElem_toArray, List.getElem_cons_zero, List.getElem_cons_succ, Act.put, List.setIfInBounds_toArray, List.set_cons_zero, List.set_cons_succ]
  refine rg_take 3 (.pointer (some ⟨B, 0, none⟩)) rfl (by kernel_rfl) (by kernel_rfl) (by kernel_rfl) (fun _ _ _ h => h) rfl (fun w _ => ?_) hS ?_
  · go_simp
  simp only [List.getElem_toArray, List.getElem_cons_zero, List.getElem_cons_succ, Act.put, List.setIfInBounds_toArray, List.set_cons_zero, List.set_cons_succ]
  refine rg_take 4 (.pointer (some ⟨S, 0, none⟩)) rfl (by kernel_rfl) (by kernel_rfl) (by kernel_rfl) (fun _ _ _ h => h) rfl (fun w _ => ?_) hS ?_
  · go_simp
  simp only [List.getElem_toArray, List.getElem_cons_zero, List.getElem_cons_succ, Act.put, List.setIfInBounds_toArray, List.set_cons_zero, List.set_cons_succ]
  refine rg_take 5 (intV s n) rfl (by kernel_rfl) (by kernel_rfl) (by kernel_rfl) (fun _ _ _ h => h) rfl (fun w hSw => ld_int (.tmp 14) rfl rfl hSw.1.num) hS ?_
  simp only [List.getElem_toArray, List.getElem_cons_zero, List.getElem_cons_succ, Act.put, List.setIfInBounds_toArray, List.set_cons_zero, List.set_cons_succ]
  refine rg_take 6 (.pointer (some ⟨S + 1, 0, none⟩)) rfl (by kernel_rfl) (by kernel_rfl) (by kernel_rfl) (fun _ _ _ h => h) rfl (fun w _ => ?_) hS ?_
  · go_simp
  simp only [List.getElem_toArray, List.getElem_cons_zero, List.getElem_cons_succ, Act.put, List.setIfInBounds_toArray, List.set_cons_zero, List.set_cons_succ]
  refine rg_take 7 (intV s' n') rfl (by kernel_rfl) (by kernel_rfl) (by kernel_rfl) (fun _ _ _ h => h) rfl (fun w hSw => ld_int (.tmp 16) rfl rfl hSw.2.num) hS ?_
  simp only [List.getElem_toArray, List.getElem_cons_zero, List.getElem_cons_succ, Act.put, List.setIfInBounds_toArray, List.set_cons_zero, List.set_cons_succ]
  refine rg_take 9 (.pointer (some ⟨B, 0, none⟩)) rfl (by kernel_rfl) (by kernel_rfl) (by kernel_rfl) (fun _ _ _ h => h) rfl (fun w _ => ?_) hS ?_
  · go_simp
  simp only [List.getElem_toArray, List.getElem_cons_zero, List.getElem_cons_succ, Act.put, List.setIfInBounds_toArray, List.set_cons_zero, List.set_cons_succ]
  refine rg_take 10 (.pointer (some ⟨B, 0, none⟩)) rfl (by kernel_rfl) (by kernel_rfl) (by kernel_rfl) (fun _ _ _ h => h) rfl (fun w _ => ?_) hS ?_
  · go_simp
  simp only [List.getElem_toArray, List.getElem_cons_zero, List.getElem_cons_succ, Act.put, List.setIfInBounds_toArray, List.set_cons_zero, List.set_cons_succ]
  refine rg_take 11 (.pointer (some ⟨B, 0, none⟩)) rfl (by kernel_rfl) (by kernel_rfl) (by kernel_rfl) (fun _ _ _ h => h) rfl (fun w _ => ?_) hS ?_
  · go_simp
  simp only [List.getElem_toArray, List.getElem_cons_zero, List.getElem_cons_succ, Act.put, List.setIfInBounds_toArray, List.set_cons_zero, List.set_cons_succ]
  refine rg_take 12 (.pointer (some ⟨S, 9, none⟩)) rfl (by kernel_rfl) (by kernel_rfl) (by kernel_rfl) (fun _ _ _ h => h) rfl (fun w _ => ?_) hS ?_
  · go_simp
  simp only [List.getElem_toArray, List.getElem_cons_zero, List.getElem_cons_succ, Act.put, List.setIfInBounds_toArray, List.set_cons_zero, List.set_cons_succ]
  refine rg_take 13 (intV t d) rfl (by kernel_rfl) (by kernel_rfl) (by kernel_rfl) (fun _ _ _ h => h) rfl (fun w hSw => ld_int (.tmp 22) rfl rfl hSw.1.den) hS ?_
  simp only [List.getElem_toArray, List.getElem_cons_zero, List.getElem_cons_succ, Act.put, List.setIfInBounds_toArray, List.set_cons_zero, List.set_cons_succ]
  refine rg_take 14 (.pointer (some ⟨S + 1, 9, none⟩)) rfl (by kernel_rfl) (by kernel_rfl) (by kernel_rfl) (fun _ _ _ h => h) rfl (fun w _ => ?_) hS ?_
  · go_simp
  simp only [List.getElem_toArray, List.getElem_cons_zero, List.getElem_cons_succ, Act.put, List.setIfInBounds_toArray, List.set_cons_zero, List.set_cons_succ]
  refine rg_take 15 (intV t' d') rfl (by kernel_rfl) (by kernel_rfl) (by kernel_rfl) (fun _ _ _ h => h) rfl (fun w hSw => ld_int (.tmp 24) rfl rfl hSw.2.den) hS ?_
  simp only [List.getElem_toArray, List.getElem_cons_zero, List.getElem_cons_succ, Act.put, List.setIfInBounds_toArray, List.set_cons_zero, List.set_cons_succ]
  clear hS
  have hI := HI4.out.drew
  clear HI4
  refine rg_one 8 (by kernel_rfl) (rs_of rfl rfl (wp_call rfl enters_do rfl (HD1.out _ B (Lib.hid hI.er)) (fun w3 hw3 => ⟨⟨(hI.ste hw3).ra, (hI.ste hw3).rb⟩, ?_⟩)))
  have hI5 := hI.ste hw3
  clear hI hw3
  simp only [List.getElem_toArray, List.getElem_cons_zero, List.getElem_cons_succ, Act.put, List.setIfInBounds_toArray, List.set_cons_zero, List.set_cons_succ]
  refine rg_one 16 (by kernel_rfl) (rs_of rfl rfl (wp_call rfl enters_do rfl (HD2.out _ B (Lib.hid hI5.er)) (fun w4 hw4 => ⟨⟨(hI5.ste hw4).ra, (hI5.ste hw4).rb⟩, ?_⟩)))
  have hI6 := hI5.ste hw4
  clear hI5 hw4
  simp only [List.getElem_toArray, List.getElem_cons_zero, List.getElem_cons_succ, Act.put, List.setIfInBounds_toArray, List.set_cons_zero, List.set_cons_succ]
  refine rg_one 17 (by kernel_rfl) (rs_of rfl rfl (wp_call rfl enters_ratio rfl (HR.out _ B (Lib.hid hI6.er)) (fun w5 hw5 => ⟨⟨(hI6.below hw5).ra, (hI6.below hw5).rb⟩, ?_⟩)))
  have hI := hI6.below hw5
  have hS := And.intro hI.ra hI.rb
  clear hI6 hw5
  simp only [List.getElem_toArray, List.getElem_cons_zero, List.getElem_cons_succ, Act.put, List.setIfInBounds_toArray, List.set_cons_zero, List.set_cons_succ]
  refine rg_take 18 (ratV z5 q5 false p5) rfl (by kernel_rfl) (by kernel_rfl) (by kernel_rfl) (fun _ _ _ h => h) rfl (fun w _ => ?_) hS ?_
  · go_simp
  simp only [List.getElem_toArray, List.getElem_cons_zero, List.getElem_cons_succ, Act.put, List.setIfInBounds_toArray, List.set_cons_zero, List.set_cons_succ]
  refine rg_take 19 (v5) rfl (by kernel_rfl) (by kernel_rfl) (by kernel_rfl) (fun _ _ _ h => h) rfl (fun w _ => ?_) hS ?_
  · go_simp
  simp only [List.getElem_toArray, List.getElem_cons_zero, List.getElem_cons_succ, Act.put, List.setIfInBounds_toArray, List.set_cons_zero, List.set_cons_succ]
  have b5 := st18_but w5 (S + 1 + 1) z5 q5 false p5
  have hS2 := And.intro (hS.1.but b5 (by omega)) (hS.2.but b5 (by omega))
  refine rg_one 20 (by kernel_rfl) ?_
  refine rs_of rfl rfl ?_
  refine stores_rat (.tmp 4) (.tmp 28) rfl (b := S + 1 + 1) (s := z5) (n := q5) (t := false) (d := p5) rfl rfl hI.rz ⟨hS2, ?_⟩
  clear hS
  have hS := hS2
  simp only [List.getElem_toArray, List.getElem_cons_zero, List.getElem_cons_succ, Act.put, List.setIfInBounds_toArray, List.set_cons_zero, List.set_cons_succ]
  refine rg_take 21 (v5) rfl (by kernel_rfl) (by kernel_rfl) (by kernel_rfl) (fun _ _ _ h => h) rfl (fun w _ => ?_) hS ?_
  · go_simp
  simp only [List.getElem_toArray, List.getElem_cons_zero, List.getElem_cons_succ, Act.put, List.setIfInBounds_toArray, List.set_cons_zero, List.set_cons_succ]
  refine wpAnyH_done (by kernel_rfl) ?_ _
  go_wp2_with fail
  refine bodyPost_ret (v := .tuple #[ratV z5 q5 false p5, v5]) (results_rat rfl rfl rfl (st18_at hI.rz)) rfl ⟨rfl, ?_⟩
  exact b5.2.1 S w (by omega) hI.bl
end Go.Proofs.YtgoemhcngmpfbaaGreatDoor
