/-
  The program's text of a ratio, for every ratio.
-/
import Derived.Test.YtgoemhcngmpfbaaGreatDoorMg22
import Derived.Test.YtgoemhcngmpfbaaGreatDoorMg27

namespace Go.Proofs.YtgoemhcngmpfbaaGreatDoor
open Go.RowKit Go.Sort
set_option linter.unusedSimpArgs false

theorem txt_le (s : Bool) {n : Nat} (h : Fits n) : (txt s n).size ≤ 156 := by
  have := decS_le h
  unfold txt
  split
  · rw [bytes_size_app]
    have : (⟨#[45]⟩ : ByteArray).size = 1 := rfl
    omega
  · omega
theorem fits_one : Fits 1 := by show 1 < _; decide
/-- A ratio's text. -/
def rtxt (s : Bool) (n : Nat) (t : Bool) (d : Nat) : ByteArray := if sgn t d = false ∧ d = 1 then txt s n else (txt s n ++ (⟨#[47]⟩ : ByteArray)) ++ txt t d
set_option maxRecDepth 100000 in
set_option maxHeartbeats 4000000 in
theorem RText_part (s : Bool) (n : Nat) (t : Bool) (d : Nat) (hn : Hid (Fits n)) (hfd : Hid (Fits d)) (hd1 : ¬ (sgn t d = false ∧ d = 1)) (w : World) (ht : Hid (Tab w)) :
    Calls Tryz.prog 20 #[ratV s n t d] w fun e w' => e = .returned (.string ((txt s n ++ (⟨#[47]⟩ : ByteArray)) ++ txt t d)) ∧ Below w.heap.size w w' := by
  have HC := Lib.hid (fun W => Canon_run t d W hfd)
  have HO := Lib.hid (fun W => Of_run 1 W (by decide) (by decide))
  have hO : intV (decide ((1 : Int) < 0)) (1 : Int).natAbs = intV false 1 := rfl
  rw [hO] at HO
  have E := fun W => eqInt (sgn t d) d false 1 W hfd.out fits_one
  rw [decide_eq_false hd1] at E
  have EG := fun x y W => eqg_int .eql x y (sgn t d) d false 1 W
  have HT0 : Hid (∀ w', Below w.heap.size w w' → Tab w') := fun w' hb => ht.out.below hb
  have HT1 : Hid (∀ W, Tab W → Calls Tryz.prog 33 #[intV s n] W fun e w' => e = .returned (.string (txt s n)) ∧ Below W.heap.size W w') := fun W hW => Text_run s n W hn hW
  have HT2 : Hid (∀ W, Tab W → Calls Tryz.prog 33 #[intV t d] W fun e w' => e = .returned (.string (txt t d)) ∧ Below W.heap.size W w') := fun W hW => Text_run t d W hfd hW
  have hx := txt_le s hn.out
  have hy := txt_le t hfd.out
  generalize txt s n = x at *
  generalize txt t d = y at *
  generalize sgn t d = z at *
  have hxa : x.size + 1 ≤ 9223372036854775807 := by omega
  have hxb : x.size + 1 + y.size ≤ 9223372036854775807 := by omega
  clear hx hy
  clear hfd hO hn hd1 ht
  obtain ⟨S, hS⟩ : ∃ S, w.heap.size = S := ⟨_, rfl⟩
  obtain ⟨W, hW⟩ : ∃ W, w.alloc (boxR s n t d 27) = W := ⟨_, rfl⟩
  have T1 := RatAt.new w s n t d 27
  have T2 := below_alloc w (boxR s n t d 27)
  have T3 : (w.alloc (boxR s n t d 27)).heap.size = w.heap.size + 1 := by simp
  rw [hW] at T1 T2 T3
  rw [hS] at T1 T2 T3 HT0 ⊢
  have HT := Lib.hid (And.intro T1 (And.intro T2 T3))
  clear T1 T2 T3
  go_enter Tryz.func20, Tryz.ntmps20
  go_wp2_with (first | (with_reducible refine wpList_box_rat rfl (.tmp 0) rfl rfl ?_) | (with_reducible refine wpList_load_int rfl (.tmp 3) rfl rfl HT.out.1.den ?_))
  refine (HC.out _).mono ?_
  rintro e w1 ⟨rfl, hw1⟩
  have hz := HT.out.2.2
  have H1 := Lib.hid (HT.out.1.keep hw1 (by omega))
  have B1 := Lib.hid (HT.out.2.1.trans (hw1.mono (by omega)))
  have z1 : S + 1 ≤ w1.heap.size := Nat.le_trans (Nat.le_of_eq hz.symm) hw1.size
  clear hw1 HT hW HC hz
  go_wp2_with fail
  refine (HO.out _).mono ?_
  rintro e w2 ⟨rfl, hw2⟩
  have H2 := Lib.hid (H1.out.keep hw2 (by omega))
  have B2 := Lib.hid (B1.out.trans (hw2.mono (by omega)))
  have z2 : S + 1 ≤ w2.heap.size := Nat.le_trans z1 hw2.size
  clear hw2 H1 B1 HO z1
  go_wp2_with fail
  refine rg_begin (fun W' => RatAt W' S s n t d) (by kernel_rfl) H2.out.drew (fun hS => ?_)
  refine rg_take 0 (.pointer (some ⟨S, 0, none⟩)) rfl (by kernel_rfl) (by kernel_rfl) (by kernel_rfl) (fun _ _ _ h => h) rfl (fun w _ => ?_) hS ?_
  · go_simp
  simp only [List.getElem_toArray, List.getElem_cons_zero, List.getElem_cons_succ, Act.put, List.setIfInBounds_toArray, List.set_cons_zero, List.set_cons_succ]
  refine rg_take 1 (intV s n) rfl (by kernel_rfl) (by kernel_rfl) (by kernel_rfl) (fun _ _ _ h => h) rfl (fun w hSw => ld_int (.tmp 11) rfl rfl hSw.num) hS ?_
  simp only [List.getElem_toArray, List.getElem_cons_zero, List.getElem_cons_succ, Act.put, List.setIfInBounds_toArray, List.set_cons_zero, List.set_cons_succ]
  refine rg_take 4 (.pointer (some ⟨S, 9, none⟩)) rfl (by kernel_rfl) (by kernel_rfl) (by kernel_rfl) (fun _ _ _ h => h) rfl (fun w _ => ?_) hS ?_
  · go_simp
  simp only [List.getElem_toArray, List.getElem_cons_zero, List.getElem_cons_succ, Act.put, List.setIfInBounds_toArray, List.set_cons_zero, List.set_cons_succ]
  refine rg_take 5 (intV t d) rfl (by kernel_rfl) (by kernel_rfl) (by kernel_rfl) (fun _ _ _ h => h) rfl (fun w hSw => ld_int (.tmp 15) rfl rfl hSw.den) hS ?_
  simp only [List.getElem_toArray, List.getElem_cons_zero, List.getElem_cons_succ, Act.put, List.setIfInBounds_toArray, List.set_cons_zero, List.set_cons_succ]
  have hz2 : S + 1 ≤ w2.drew.heap.size := z2
  refine rg_one 2 (by kernel_rfl) (rs_of rfl rfl (wp_call rfl enters_Text rfl (HT1.out _ (HT0.out _ B2.out.drew)) (fun w3 hw3 => ⟨hS.keep hw3 (by omega), ?_⟩)))
  have hS3 := hS.keep hw3 (by omega)
  have B3 := Lib.hid (B2.out.drew.trans (hw3.mono (by omega)))
  have z3 := Nat.le_trans hz2 hw3.size
  clear hS hw3 hz2 B2 H2
  simp only [List.getElem_toArray, List.getElem_cons_zero, List.getElem_cons_succ, Act.put, List.setIfInBounds_toArray, List.set_cons_zero, List.set_cons_succ]
  have hS := hS3
  refine rg_take 3 (.string (x ++ (⟨#[47]⟩ : ByteArray))) rfl (by kernel_rfl) (by kernel_rfl) (by kernel_rfl) (fun _ _ _ h => h) rfl (fun w _ => ?_) hS ?_
  · go_simp
  simp only [List.getElem_toArray, List.getElem_cons_zero, List.getElem_cons_succ, Act.put, List.setIfInBounds_toArray, List.set_cons_zero, List.set_cons_succ]
  refine rg_one 6 (by kernel_rfl) (rs_of rfl rfl (wp_call rfl enters_Text rfl (HT2.out _ (HT0.out _ B3.out)) (fun w4 hw4 => ⟨hS.keep hw4 (by omega), ?_⟩)))
  have hS4 := hS3.keep hw4 (by omega)
  have B4 := Lib.hid (B3.out.trans (hw4.mono (by omega)))
  clear hS hS3 hw4 B3
  simp only [List.getElem_toArray, List.getElem_cons_zero, List.getElem_cons_succ, Act.put, List.setIfInBounds_toArray, List.set_cons_zero, List.set_cons_succ]
  have hS := hS4
  refine rg_take 7 (.string ((x ++ (⟨#[47]⟩ : ByteArray)) ++ y)) rfl (by kernel_rfl) (by kernel_rfl) (by kernel_rfl) (fun _ _ _ h => h) rfl (fun w _ => ?_) hS ?_
  · go_simp
  simp only [List.getElem_toArray, List.getElem_cons_zero, List.getElem_cons_succ, Act.put, List.setIfInBounds_toArray, List.set_cons_zero, List.set_cons_succ]
  refine rg_take 8 (.string ((x ++ (⟨#[47]⟩ : ByteArray)) ++ y)) rfl (by kernel_rfl) (by kernel_rfl) (by kernel_rfl) (fun _ _ _ h => h) rfl (fun w _ => ?_) hS ?_
  · go_simp
  simp only [List.getElem_toArray, List.getElem_cons_zero, List.getElem_cons_succ, Act.put, List.setIfInBounds_toArray, List.set_cons_zero, List.set_cons_succ]
  refine wpAnyH_done (by kernel_rfl) ?_ _
  go_wp2_with fail
  go_ret
  exact ⟨rfl, B4.out⟩
set_option maxRecDepth 100000 in
set_option maxHeartbeats 4000000 in
theorem RText_whole (s : Bool) (n : Nat) (t : Bool) (d : Nat) (hn : Hid (Fits n)) (hd1 : sgn t d = false ∧ d = 1) (w : World) (ht : Hid (Tab w)) :
    Calls Tryz.prog 20 #[ratV s n t d] w fun e w' => e = .returned (.string (txt s n)) ∧ Below w.heap.size w w' := by
  obtain ⟨hz1, rfl⟩ := hd1
  have hfd : Hid (Fits 1) := fits_one
  have HC := Lib.hid (fun W => Canon_run t 1 W hfd)
  have HO := Lib.hid (fun W => Of_run 1 W (by decide) (by decide))
  have hO : intV (decide ((1 : Int) < 0)) (1 : Int).natAbs = intV false 1 := rfl
  rw [hO] at HO
  rw [hz1] at HC
  have E := fun W => eqInt false 1 false 1 W hfd.out fits_one
  rw [decide_eq_true ⟨rfl, rfl⟩] at E
  have EG := fun x y W => eqg_int .eql x y false 1 false 1 W
  have HT0 : Hid (∀ w', Below w.heap.size w w' → Tab w') := fun w' hb => ht.out.below hb
  have HT1 : Hid (∀ W, Tab W → Calls Tryz.prog 33 #[intV s n] W fun e w' => e = .returned (.string (txt s n)) ∧ Below W.heap.size W w') := fun W hW => Text_run s n W hn hW
  generalize txt s n = x at *
  clear hfd hO hn ht hz1
  obtain ⟨S, hS⟩ : ∃ S, w.heap.size = S := ⟨_, rfl⟩
  obtain ⟨W, hW⟩ : ∃ W, w.alloc (boxR s n t 1 27) = W := ⟨_, rfl⟩
  have T1 := RatAt.new w s n t 1 27
  have T2 := below_alloc w (boxR s n t 1 27)
  have T3 : (w.alloc (boxR s n t 1 27)).heap.size = w.heap.size + 1 := by simp
  rw [hW] at T1 T2 T3
  rw [hS] at T1 T2 T3 HT0 ⊢
  have HT := Lib.hid (And.intro T1 (And.intro T2 T3))
  clear T1 T2 T3
  go_enter Tryz.func20, Tryz.ntmps20
  go_wp2_with (first | (with_reducible refine wpList_box_rat rfl (.tmp 0) rfl rfl ?_) | (with_reducible refine wpList_load_int rfl (.tmp 3) rfl rfl HT.out.1.den ?_))
  refine (HC.out _).mono ?_
  rintro e w1 ⟨rfl, hw1⟩
  have hz := HT.out.2.2
  have H1 := Lib.hid (HT.out.1.keep hw1 (by omega))
  have B1 := Lib.hid (HT.out.2.1.trans (hw1.mono (by omega)))
  have z1 : S + 1 ≤ w1.heap.size := Nat.le_trans (Nat.le_of_eq hz.symm) hw1.size
  clear hw1 HT hW HC hz
  go_wp2_with fail
  refine (HO.out _).mono ?_
  rintro e w2 ⟨rfl, hw2⟩
  have H2 := Lib.hid (H1.out.keep hw2 (by omega))
  have B2 := Lib.hid (B1.out.trans (hw2.mono (by omega)))
  clear hw2 H1 B1 HO z1
  go_wp2_with (first | (with_reducible refine wpList_load_int rfl (.tmp 8) rfl rfl H2.out.num ?_))
  refine (HT1.out _ (HT0.out _ B2.out)).mono ?_
  rintro e w3 ⟨rfl, hw3⟩
  have B3 := Lib.hid (B2.out.trans (hw3.mono (by have := B2.out.size; omega)))
  clear hw3
  go_wp2_with fail
  go_ret
  exact ⟨rfl, B3.out⟩
theorem RText_run (s : Bool) (n : Nat) (t : Bool) (d : Nat) (hn : Hid (Fits n)) (hd : Hid (Fits d)) (w : World) (ht : Hid (Tab w)) :
    Calls Tryz.prog 20 #[ratV s n t d] w fun e w' => e = .returned (.string (rtxt s n t d)) ∧ Below w.heap.size w w' := by
  unfold rtxt
  by_cases h : sgn t d = false ∧ d = 1
  · rw [if_pos h]; exact RText_whole s n t d hn h w ht
  · rw [if_neg h]; exact RText_part s n t d hn hd h w ht
end Go.Proofs.YtgoemhcngmpfbaaGreatDoor

/-
  The document's text of a ratio.
-/
namespace Go.Proofs.YtgoemhcngmpfbaaGreatDoor
open Go.RowKit Go.Sort
set_option linter.unusedSimpArgs false

theorem cmp_is_one (t : Bool) (d : Nat) : cmpS (sgn t d) d false 1 = 0 ↔ (sgn t d = false ∧ d = 1) := by
  by_cases hz : sgn t d = false
  · rw [hz, cmp_one]
    exact ⟨fun h => ⟨rfl, h⟩, fun h => h.2⟩
  · have h1 : sgn t d = true := by simpa using hz
    have hd : d ≠ 0 := by
      intro e
      rw [e] at h1
      simp [sgn] at h1
    rw [h1]
    constructor
    · intro h
      unfold cmpS at h
      simp [sgn, hd] at h
    · intro h
      exact absurd h.1 (by decide)
theorem txt_sg (s : Bool) (n : Nat) : txt (sgn s n) n = txt s n := by
  unfold txt
  have : sgn (sgn s n) n = sgn s n := by unfold sgn; cases s <;> simp
  rw [this]
set_option maxRecDepth 100000 in
set_option maxHeartbeats 8000000 in
theorem Text_run8 (s : Bool) (n : Nat) (t : Bool) (d : Nat) (w : World) (hn : Hid (Fits n)) (hd : Hid (Fits d)) :
    Calls Tryz.prog 14 #[ratV s n t d] w fun e w' => e = .returned (.string (rtxt s n t d)) ∧ Below w.heap.size w w' := by
  obtain ⟨S, hS⟩ : ∃ S, w.heap.size = S := ⟨_, rfl⟩
  obtain ⟨W0, hW0⟩ : ∃ W, w.alloc (boxR s n t d 27) = W := ⟨_, rfl⟩
  have I := (Bs.start w hS).pushRat hS s n t d 27
  rw [hW0] at I
  replace I := Lib.hid I
  obtain ⟨z1, hz1⟩ : ∃ z, sgn s n = z := ⟨_, rfl⟩
  obtain ⟨z2, hz2⟩ : ∃ z, sgn t d = z := ⟨_, rfl⟩
  obtain ⟨L, hL⟩ : ∃ L, nl n = L := ⟨_, rfl⟩
  obtain ⟨M, hM⟩ : ∃ M, nl d = M := ⟨_, rfl⟩
  have HN1 := Lib.hid (fun W => Num_run s z1 n L W hn hz1 hL)
  have HN2 := Lib.hid (fun W => Num_run t z2 d M W hd hz2 hM)
  have HO := Lib.hid (fun W => One_run W)
  have HX : Hid (∀ (A : Option Addr) (cap : Nat) (W : World), Good W z1 A L cap n → Calls Tryz.prog 48 #[.agg #[.bool z1, .slice A L cap]] W fun e w' => e = .returned (.string (txt s n)) ∧ Below W.heap.size W w') := fun A cap W hg => by
    have := Text_run7 z1 A L cap n W hg hn
    rwa [← hz1, txt_sg, hz1] at this
  have HY : Hid (∀ (A : Option Addr) (cap : Nat) (W : World), Good W z2 A M cap d → Calls Tryz.prog 48 #[.agg #[.bool z2, .slice A M cap]] W fun e w' => e = .returned (.string (txt t d)) ∧ Below W.heap.size W w') := fun A cap W hg => by
    have := Text_run7 z2 A M cap d W hg hd
    rwa [← hz2, txt_sg, hz2] at this
  have hx := txt_le s hn.out
  have hy := txt_le t hd.out
  have hc := cmp_is_one t d
  rw [hz2] at hc
  obtain ⟨c, hcc⟩ : ∃ c, cmpS z2 d false 1 = c := ⟨_, rfl⟩
  rw [hcc] at hc
  unfold rtxt
  rw [hz2]
  have HCC := Lib.hid hcc
  generalize txt s n = x at *
  generalize txt t d = y at *
  have hxa : x.size + 1 ≤ 9223372036854775807 := by omega
  have hxb : x.size + 1 + y.size ≤ 9223372036854775807 := by omega
  clear hx hy hz1 hz2 hL hM hn hd hcc
  rw [hS]
  by_cases h1 : c = 0
  · rw [if_pos (hc.1 h1)]
    subst h1
    clear hc
    go_enter Tryz.func14, Tryz.ntmps14
    go_wp2_with (first | (with_reducible refine wpList_box_rat rfl (.tmp 0) rfl rfl ?_) | (with_reducible refine wpList_load_int rfl (.tmp 4) rfl rfl (I.out.rat 0 rfl).num ?_))
    clear hW0
    refine (HN1.out _).mono ?_
    rintro e w1 ⟨⟨A, cA⟩, rfl, hg, hw⟩
    have I1 := Lib.hid ((I.out.below hw).pushDig hg)
    clear hg hw I
    go_wp2_with fail
    refine (HX.out A cA _ (I1.out.dig 0 rfl)).mono ?_
    rintro e w2 ⟨rfl, hw⟩
    have I2 := Lib.hid (I1.out.below hw)
    clear hw I1
    go_wp2_with (first | (with_reducible refine wpList_load_int rfl (.tmp 8) rfl rfl (I2.out.rat 1 rfl).den ?_))
    refine (HN2.out _).mono ?_
    rintro e w3 ⟨⟨B, cB⟩, rfl, hg, hw⟩
    have I3 := Lib.hid ((I2.out.below hw).pushDig hg)
    clear hg hw I2
    go_wp2_with fail
    refine (HO.out _).mono ?_
    rintro e w4 ⟨⟨C, cC⟩, rfl, hg, hw⟩
    have I4 := Lib.hid ((I3.out.below hw).pushDig hg)
    clear hg hw I3
    go_wp2_with fail
    refine (Cmp_run7 z2 B M cB d false C 1 cC 1 0 _ (I4.out.dig 1 rfl) (I4.out.dig 0 rfl) HCC).mono ?_
    rintro e w5 ⟨rfl, hw⟩
    have I5 := Lib.hid (I4.out.below hw)
    clear hw I4
    go_wp2_with fail
    go_ret
    exact ⟨rfl, I5.out.bl⟩
  · rw [if_neg (fun h => h1 (hc.2 h))]
    clear hc
    go_enter Tryz.func14, Tryz.ntmps14
    go_wp2_with (first | (with_reducible refine wpList_box_rat rfl (.tmp 0) rfl rfl ?_) | (with_reducible refine wpList_load_int rfl (.tmp 4) rfl rfl (I.out.rat 0 rfl).num ?_))
    clear hW0
    refine (HN1.out _).mono ?_
    rintro e w1 ⟨⟨A, cA⟩, rfl, hg, hw⟩
    have I1 := Lib.hid ((I.out.below hw).pushDig hg)
    clear hg hw I
    go_wp2_with fail
    refine (HX.out A cA _ (I1.out.dig 0 rfl)).mono ?_
    rintro e w2 ⟨rfl, hw⟩
    have I2 := Lib.hid (I1.out.below hw)
    clear hw I1
    go_wp2_with (first | (with_reducible refine wpList_load_int rfl (.tmp 8) rfl rfl (I2.out.rat 1 rfl).den ?_))
    refine (HN2.out _).mono ?_
    rintro e w3 ⟨⟨B, cB⟩, rfl, hg, hw⟩
    have I3 := Lib.hid ((I2.out.below hw).pushDig hg)
    clear hg hw I2
    go_wp2_with fail
    refine (HO.out _).mono ?_
    rintro e w4 ⟨⟨C, cC⟩, rfl, hg, hw⟩
    have I4 := Lib.hid ((I3.out.below hw).pushDig hg)
    clear hg hw I3
    go_wp2_with fail
    refine (Cmp_run7 z2 B M cB d false C 1 cC 1 c _ (I4.out.dig 1 rfl) (I4.out.dig 0 rfl) HCC).mono ?_
    rintro e w5 ⟨rfl, hw⟩
    have I5 := Lib.hid (I4.out.below hw)
    clear hw I4
    go_wp2_with (first | (with_reducible refine wpList_load_int rfl (.tmp 17) rfl rfl (I5.out.rat 3 rfl).den ?_))
    refine (HN2.out _).mono ?_
    rintro e w6 ⟨⟨D, cD⟩, rfl, hg, hw⟩
    have I6 := Lib.hid ((I5.out.below hw).pushDig hg)
    clear hg hw I5
    go_wp2_with fail
    refine (HY.out D cD _ (I6.out.dig 0 rfl)).mono ?_
    rintro e w7 ⟨rfl, hw⟩
    have I7 := Lib.hid (I6.out.below hw)
    clear hw I6
    go_wp2_with fail
    go_ret
    exact ⟨rfl, I7.out.bl⟩
end Go.Proofs.YtgoemhcngmpfbaaGreatDoor
