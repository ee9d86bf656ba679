/-
  The program's text of a ratio, for every ratio.
-/
import Derived.Test.YtgoemhcngmpfbaaGreatDoorMv26
import Derived.Test.YtgoemhcngmpfbaaGreatDoorMv14
import Derived.Test.YtgoemhcngmpfbaaGreatDoorMv23
import Derived.HandedShaped
import Derived.Shelf.Vars
import Derived.Lay
namespace Go.Proofs.YtgoemhcngmpfbaaGreatDoor
open Go.RowKit Go.Sort
set_option linter.unusedSimpArgs false
theorem txt_le (s : Bool) {n : Nat} (h : Fits n) : (txt s n).size ≤ 156 := by
 have := decS_le h
 unfold txt
 split
 ·rw [bytes_size_app]
  have : (⟨#[45]⟩ : ByteArray).size = 1 := rfl
  omega
 ·omega
theorem fits_one : Fits 1 := by show 1 < _; decide
def rtxt (s : Bool) (n : Nat) (t : Bool) (d : Nat) : ByteArray := if sgn t d = false ∧ d = 1 then txt s n else (txt s n ++ (⟨#[47]⟩ : ByteArray)) ++ txt t d
set_option maxRecDepth 100000 in
set_option maxHeartbeats 4000000 in
theorem RText_part (s : Bool) (n : Nat) (t : Bool) (d : Nat) (hn : Hid (Fits n)) (hfd : Hid (Fits d)) (hd1 : ¬ (sgn t d = false ∧ d = 1)) (w : World) (ht : Hid (Tab w)) :
  Calls Tryz.prog 20 #[ratV s n t d] w fun e w' => e = .returned (.string ((txt s n ++ (⟨#[47]⟩ : ByteArray)) ++ txt t d)) ∧ Below w.heap.size w w' := by
 have HC := Lib.hid (fun W => Canon_run t d W hfd)
 have HO := Lib.hid (fun W => Of_run 1 W (by decide) (by decide))
 have hO : intV (decide ((1 : Int) < 0)) (1 : Int).natAbs = intV false 1 := rfl
 rw [hO] at HO
 have E := fun W => eqInt (sgn t d) d false 1 W hfd.out fits_one
 rw [decide_eq_false hd1] at E
 have EG := fun x y W => eqg_int .eql x y (sgn t d) d false 1 W
 have HT0 : Hid (∀ w', Below w.heap.size w w' → Tab w') := fun w' hb => ht.out.below hb
 have HT1 : Hid (∀ W, Tab W → Calls Tryz.prog 33 #[intV s n] W fun e w' => e = .returned (.string (txt s n)) ∧ Below W.heap.size W w') := fun W hW => Text_run s n W hn hW
 have HT2 : Hid (∀ W, Tab W → Calls Tryz.prog 33 #[intV t d] W fun e w' => e = .returned (.string (txt t d)) ∧ Below W.heap.size W w') := fun W hW => Text_run t d W hfd hW
 have hx := txt_le s hn.out
 have hy := txt_le t hfd.out
 generalize txt s n = x at *
 generalize txt t d = y at *
 generalize sgn t d = z at *
 have hxa : x.size + 1 ≤ 9223372036854775807 := by omega
 have hxb : x.size + 1 + y.size ≤ 9223372036854775807 := by omega
 clear hx hy
 clear hfd hO hn hd1 ht
 obtain ⟨S, hS⟩ : ∃ S, w.heap.size = S := ⟨_, rfl⟩
 obtain ⟨W, hW⟩ : ∃ W, w.alloc (boxR s n t d 27) = W := ⟨_, rfl⟩
 have T1 := RatAt.new w s n t d 27
 have T2 := below_alloc w (boxR s n t d 27)
 have T3 : (w.alloc (boxR s n t d 27)).heap.size = w.heap.size + 1 := by simp
 rw [hW] at T1 T2 T3
 rw [hS] at T1 T2 T3 HT0 ⊢
 have HT := Lib.hid (And.intro T1 (And.intro T2 T3))
 clear T1 T2 T3
 go_enter Tryz.func20, Tryz.ntmps20
 go_wp2_with (first | (with_reducible refine wpList_box_rat rfl (.tmp 0) rfl rfl ?_) | (with_reducible refine wpList_load_int rfl (.tmp 3) rfl rfl HT.out.1.den ?_))
 refine (HC.out _).mono ?_
 rintro e w1 ⟨rfl, hw1⟩
 have hz := HT.out.2.2
 have H1 := Lib.hid (HT.out.1.keep hw1 (by omega))
 have B1 := Lib.hid (HT.out.2.1.trans (hw1.mono (by omega)))
 have z1 : S + 1 ≤ w1.heap.size := Nat.le_trans (Nat.le_of_eq hz.symm) hw1.size
 clear hw1 HT hW HC hz
 go_wp2_with fail
 refine (HO.out _).mono ?_
 rintro e w2 ⟨rfl, hw2⟩
 have H2 := Lib.hid (H1.out.keep hw2 (by omega))
 have B2 := Lib.hid (B1.out.trans (hw2.mono (by omega)))
 have z2 : S + 1 ≤ w2.heap.size := Nat.le_trans z1 hw2.size
 clear hw2 H1 B1 HO z1
 go_wp2_with fail
 refine rg_begin (fun W' => RatAt W' S s n t d) (by kernel_rfl) H2.out.drew (fun hS => ?_)
 refine rg_take 0 (.pointer (some ⟨S, 0, none⟩)) rfl (by kernel_rfl) (by kernel_rfl) (by kernel_rfl) (fun _ _ _ h => h) rfl (fun w _ => ?_) hS ?_
 ·go_simp
 simp only [List.getElem_toArray, List.getElem_cons_zero, List.getElem_cons_succ, Act.put, List.setIfInBounds_toArray, List.set_cons_zero, List.set_cons_succ]
 refine rg_take 1 (intV s n) rfl (by kernel_rfl) (by kernel_rfl) (by kernel_rfl) (fun _ _ _ h => h) rfl (fun w hSw => ld_int (.tmp 11) rfl rfl hSw.num) hS ?_
 simp only [List.getElem_toArray, List.getElem_cons_zero, List.getElem_cons_succ, Act.put, List.setIfInBounds_toArray, List.set_cons_zero, List.set_cons_succ]
 refine rg_take 4 (.pointer (some ⟨S, 9, none⟩)) rfl (by kernel_rfl) (by kernel_rfl) (by kernel_rfl) (fun _ _ _ h => h) rfl (fun w _ => ?_) hS ?_
 ·go_simp
 simp only [List.getElem_toArray, List.getElem_cons_zero, List.getElem_cons_succ, Act.put, List.setIfInBounds_toArray, List.set_cons_zero, List.set_cons_succ]
 refine rg_take 5 (intV t d) rfl (by kernel_rfl) (by kernel_rfl) (by kernel_rfl) (fun _ _ _ h => h) rfl (fun w hSw => ld_int (.tmp 15) rfl rfl hSw.den) hS ?_
 simp only [List.getElem_toArray, List.getElem_cons_zero, List.getElem_cons_succ, Act.put, List.setIfInBounds_toArray, List.set_cons_zero, List.set_cons_succ]
 have hz2 : S + 1 ≤ w2.drew.heap.size := z2
 refine rg_one 2 (by kernel_rfl) (rs_of rfl rfl (wp_call rfl enters_Text rfl (HT1.out _ (HT0.out _ B2.out.drew)) (fun w3 hw3 => ⟨hS.keep hw3 (by omega), ?_⟩)))
 have hS3 := hS.keep hw3 (by omega)
 have B3 := Lib.hid (B2.out.drew.trans (hw3.mono (by omega)))
 have z3 := Nat.le_trans hz2 hw3.size
 clear hS hw3 hz2 B2 H2
 simp only [List.getElem_toArray, List.getElem_cons_zero, List.getElem_cons_succ, Act.put, List.setIfInBounds_toArray, List.set_cons_zero, List.set_cons_succ]
 have hS := hS3
 refine rg_take 3 (.string (x ++ (⟨#[47]⟩ : ByteArray))) rfl (by kernel_rfl) (by kernel_rfl) (by kernel_rfl) (fun _ _ _ h => h) rfl (fun w _ => ?_) hS ?_
 ·go_simp
 simp only [List.getElem_toArray, List.getElem_cons_zero, List.getElem_cons_succ, Act.put, List.setIfInBounds_toArray, List.set_cons_zero, List.set_cons_succ]
 refine rg_one 6 (by kernel_rfl) (rs_of rfl rfl (wp_call rfl enters_Text rfl (HT2.out _ (HT0.out _ B3.out)) (fun w4 hw4 => ⟨hS.keep hw4 (by omega), ?_⟩)))
 have hS4 := hS3.keep hw4 (by omega)
 have B4 := Lib.hid (B3.out.trans (hw4.mono (by omega)))
 clear hS hS3 hw4 B3
 simp only [List.getElem_toArray, List.getElem_cons_zero, List.getElem_cons_succ, Act.put, List.setIfInBounds_toArray, List.set_cons_zero, List.set_cons_succ]
 have hS := hS4
 refine rg_take 7 (.string ((x ++ (⟨#[47]⟩ : ByteArray)) ++ y)) rfl (by kernel_rfl) (by kernel_rfl) (by kernel_rfl) (fun _ _ _ h => h) rfl (fun w _ => ?_) hS ?_
 ·go_simp
 simp only [List.getElem_toArray, List.getElem_cons_zero, List.getElem_cons_succ, Act.put, List.setIfInBounds_toArray, List.set_cons_zero, List.set_cons_succ]
 refine rg_take 8 (.string ((x ++ (⟨#[47]⟩ : ByteArray)) ++ y)) rfl (by kernel_rfl) (by kernel_rfl) (by kernel_rfl) (fun _ _ _ h => h) rfl (fun w _ => ?_) hS ?_
 ·go_simp
 simp only [List.getElem_toArray, List.getElem_cons_zero, List.getElem_cons_succ, Act.put, List.setIfInBounds_toArray, List.set_cons_zero, List.set_cons_succ]
 refine wpAnyH_done (by kernel_rfl) ?_ _
 go_wp2_with fail
 go_ret
 exact ⟨rfl, B4.out⟩
set_option maxRecDepth 100000 in
set_option maxHeartbeats 4000000 in
theorem RText_whole (s : Bool) (n : Nat) (t : Bool) (d : Nat) (hn : Hid (Fits n)) (hd1 : sgn t d = false ∧ d = 1) (w : World) (ht : Hid (Tab w)) :
  Calls Tryz.prog 20 #[ratV s n t d] w fun e w' => e = .returned (.string (txt s n)) ∧ Below w.heap.size w w' := by
 obtain ⟨hz1, rfl⟩ := hd1
 have hfd : Hid (Fits 1) := fits_one
 have HC := Lib.hid (fun W => Canon_run t 1 W hfd)
 have HO := Lib.hid (fun W => Of_run 1 W (by decide) (by decide))
 have hO : intV (decide ((1 : Int) < 0)) (1 : Int).natAbs = intV false 1 := rfl
 rw [hO] at HO
 rw [hz1] at HC
 have E := fun W => eqInt false 1 false 1 W hfd.out fits_one
 rw [decide_eq_true ⟨rfl, rfl⟩] at E
 have EG := fun x y W => eqg_int .eql x y false 1 false 1 W
 have HT0 : Hid (∀ w', Below w.heap.size w w' → Tab w') := fun w' hb => ht.out.below hb
 have HT1 : Hid (∀ W, Tab W → Calls Tryz.prog 33 #[intV s n] W fun e w' => e = .returned (.string (txt s n)) ∧ Below W.heap.size W w') := fun W hW => Text_run s n W hn hW
 generalize txt s n = x at *
 clear hfd hO hn ht hz1
 obtain ⟨S, hS⟩ : ∃ S, w.heap.size = S := ⟨_, rfl⟩
 obtain ⟨W, hW⟩ : ∃ W, w.alloc (boxR s n t 1 27) = W := ⟨_, rfl⟩
 have T1 := RatAt.new w s n t 1 27
 have T2 := below_alloc w (boxR s n t 1 27)
 have T3 : (w.alloc (boxR s n t 1 27)).heap.size = w.heap.size + 1 := by simp
 rw [hW] at T1 T2 T3
 rw [hS] at T1 T2 T3 HT0 ⊢
 have HT := Lib.hid (And.intro T1 (And.intro T2 T3))
 clear T1 T2 T3
 go_enter Tryz.func20, Tryz.ntmps20
 go_wp2_with (first | (with_reducible refine wpList_box_rat rfl (.tmp 0) rfl rfl ?_) | (with_reducible refine wpList_load_int rfl (.tmp 3) rfl rfl HT.out.1.den ?_))
 refine (HC.out _).mono ?_
 rintro e w1 ⟨rfl, hw1⟩
 have hz := HT.out.2.2
 have H1 := Lib.hid (HT.out.1.keep hw1 (by omega))
 have B1 := Lib.hid (HT.out.2.1.trans (hw1.mono (by omega)))
 have z1 : S + 1 ≤ w1.heap.size := Nat.le_trans (Nat.le_of_eq hz.symm) hw1.size
 clear hw1 HT hW HC hz
 go_wp2_with fail
 refine (HO.out _).mono ?_
 rintro e w2 ⟨rfl, hw2⟩
 have H2 := Lib.hid (H1.out.keep hw2 (by omega))
 have B2 := Lib.hid (B1.out.trans (hw2.mono (by omega)))
 clear hw2 H1 B1 HO z1
 go_wp2_with (first | (with_reducible refine wpList_load_int rfl (.tmp 8) rfl rfl H2.out.num ?_))
 refine (HT1.out _ (HT0.out _ B2.out)).mono ?_
 rintro e w3 ⟨rfl, hw3⟩
 have B3 := Lib.hid (B2.out.trans (hw3.mono (by have := B2.out.size; omega)))
 clear hw3
 go_wp2_with fail
 go_ret
 exact ⟨rfl, B3.out⟩
theorem RText_run (s : Bool) (n : Nat) (t : Bool) (d : Nat) (hn : Hid (Fits n)) (hd : Hid (Fits d)) (w : World) (ht : Hid (Tab w)) :
  Calls Tryz.prog 20 #[ratV s n t d] w fun e w' => e = .returned (.string (rtxt s n t d)) ∧ Below w.heap.size w w' := by
 unfold rtxt
 by_cases h : sgn t d = false ∧ d = 1
 ·rw [if_pos h]; exact RText_whole s n t d hn h w ht
 ·rw [if_neg h]; exact RText_part s n t d hn hd h w ht
end Go.Proofs.YtgoemhcngmpfbaaGreatDoor
namespace Go.Proofs.YtgoemhcngmpfbaaGreatDoor
open Go.RowKit Go.Sort
set_option linter.unusedSimpArgs false
theorem sep_of {p : Nat → Bool} {l : List UInt8} (h : (List.range l.length).all (fun i => !(l.getD i 0 == 95) || (decide (0 < i) && decide (i + 1 < l.length) && p (l.getD (i - 1) 0).toNat && p (l.getD (i + 1) 0).toNat)) = true) : Sep p l := by
 intro i hi
 have hil := (List.getElem?_eq_some_iff.1 hi).1
 have := List.all_eq_true.1 h i (List.mem_range.2 hil)
 rw [getD_of hi] at this
 simp only [beq_self_eq_true, Bool.not_true, Bool.false_or, Bool.and_eq_true, decide_eq_true_eq] at this
 obtain ⟨⟨⟨h0, h1⟩, h2⟩, h3⟩ := this
 refine ⟨l.getD (i - 1) 0, l.getD (i + 1) 0, h0, ?_, ?_, h2, h3⟩
 ·rw [List.getD_eq_getElem?_getD, List.getElem?_eq_getElem (show i - 1 < l.length by omega)]; rfl
 ·rw [List.getD_eq_getElem?_getD, List.getElem?_eq_getElem h1]; rfl
theorem fits_of {n : Nat} (h : n < 100000) : Fits n := Nat.lt_of_lt_of_le h (Nat.le_trans (show 100000 ≤ 18446744073709551616 by decide) (Nat.le_self_pow (by decide) _))
theorem int_ex : IntIs [48, 120, 95, 102, 70] 0 255 := by
 have hk : parK 16 (unsc [95, 102, 70]) = 0 := parK_ok rfl (by decide) (fits_of (by decide))
 exact .inl ⟨by decide, .inr ⟨sep_of (by decide), hk.symm, ((parN_ok hk).trans rfl).symm⟩⟩
theorem float_ok_ex : FloatOk [49, 95, 48, 46, 50, 53, 101, 49] := ⟨sep_of (by decide), rfl, rfl, rfl⟩
theorem scl_ex : scl false 1025 false 1 10 (-1) = ⟨false, 205, 2, 0⟩ := by rfl
theorem float_ex : FloatIs [49, 95, 48, 46, 50, 53, 101, 49] ⟨false, 205, 2, 0⟩ := by
 have hk : parK 10 (ptW [49, 95, 48, 46, 50, 53, 101, 49] ++ ptF [49, 95, 48, 46, 50, 53, 101, 49]) = 0 := parK_ok rfl (by decide) (fits_of (by decide))
 refine .inr ⟨float_ok_ex, .inr ⟨hk, .inr ⟨by decide, ?_⟩⟩⟩
 rw [parN_ok hk]
 exact scl_ex
theorem int_ex2 : IntIs [48, 56] 13 0 := by
 have hk : parK 8 ((unsc [48, 56]).drop 1) = 13 := parK_dig rfl (by decide)
 exact .inr ⟨rfl, .inr ⟨by decide, sep_of (by decide), .inl ⟨by decide, rfl, hk.symm, (parN_no (by rw [hk]; decide)).symm⟩⟩⟩
theorem scan_ex : ScanIs [48, 56] 0 2 2 13 := by
 refine .inr ⟨by decide, by decide, rfl, ⟨by decide, ?_, fun h => absurd h (by decide)⟩, rfl, ⟨false, 0, 0, 13⟩, .inl ⟨rfl, 13, 0, int_ex2, .inl ⟨by decide, rfl⟩⟩, rfl⟩
 intro i hi
 match i, hi with
 | 0, _ => rfl
 | 1, _ => rfl
theorem txt_255 : txt false 255 = ⟨#[50, 53, 53]⟩ := by
 have h : Lib.decDigits 255 = [50, 53, 53] := by rw [Lib.decDigits]; simp; rw [Lib.decDigits]; simp; rw [Lib.decDigits]; simp
 unfold txt decS
 rw [h]
 rfl
theorem txt_205 : rtxt false 205 false 2 = ⟨#[50, 48, 53, 47, 50]⟩ := by
 have h : Lib.decDigits 205 = [50, 48, 53] := by rw [Lib.decDigits]; simp; rw [Lib.decDigits]; simp; rw [Lib.decDigits]; simp
 have h2 : Lib.decDigits 2 = [50] := by rw [Lib.decDigits]; rfl
 unfold rtxt txt decS
 rw [h, h2]
 rfl
end Go.Proofs.YtgoemhcngmpfbaaGreatDoor
namespace Go.Proofs.YtgoemhcngmpfbaaGreatDoor
open Go.RowKit
theorem conv_lit (w : World) (cs : Array Value) (n c : Nat) : (convert 48 48 (.slice (some ⟨w.heap.size, 0, none⟩) n c)).run Tryz.prog (w.alloc (.cells cs 5)) = .ok (.slice (some ⟨w.heap.size, 0, none⟩) n c) (w.alloc (.cells cs 5 (cs.size, cs.size + 1))) := by
 have hsh : (w.alloc (.cells cs 5)).shape? w.heap.size = some (5, cs.size) := by
  have : (w.alloc (.cells cs 5)).heap[w.heap.size]? = some (.cells cs 5) := by
   show (w.heap.push (.cells cs 5))[w.heap.size]? = _
   simp
  unfold World.shape?
  rw [this]
 have hfr : (w.alloc (.cells cs 5)).freeze ⟨w.heap.size, cs.size, none⟩ 1 = w.alloc (.cells cs 5 (cs.size, cs.size + 1)) := by
  have hm : ∀ (a : Array Obj) (x : Obj) (f : Obj → Obj), (a.push x).modify a.size f = a.push (f x) := by
   intro a x f
   apply Array.ext
   ·simp
   ·intro i h1 h2
    simp only [Array.getElem_modify, Array.getElem_push]
    by_cases h : a.size = i
    ·subst h
     simp
    ·have hi : i < a.size := by simp at h1; omega
     simp [h, hi]
  unfold World.freeze
  rw [if_neg (by decide)]
  show ({ w.alloc (.cells cs 5) with heap := (w.heap.push (.cells cs 5)).modify w.heap.size _ } : World) = _
  rw [hm]
  rfl
 simp [convert, run_underlying Tryz.underlying48, run_underlying Tryz.underlying5, markStringish, hsh]
 exact hfr
end Go.Proofs.YtgoemhcngmpfbaaGreatDoor
namespace Go.Proofs.YtgoemhcngmpfbaaGreatDoor
open Go.RowKit Go.Sort
set_option linter.unusedSimpArgs false
theorem byts_new2 (w : World) (a b : Int) (ha : 0 ≤ a ∧ a ≤ 255) (hb : 0 ≤ b ∧ b ≤ 255) (T : TypeId) (m : Nat × Nat) : Byts (w.alloc (.cells #[.int .u8 a, .int .u8 b] T m)) (w.heap.size + 1) (some ⟨w.heap.size, 0, none⟩) [a, b] :=
 ⟨fun z hz => by simp at hz; omega, fun _ => ⟨_, _, rfl, by omega, fun i x hx => by
  rw [World.cell?_alloc_mark]
  match i, hx with
  | 0, hx => cases hx; rfl
  | 1, hx => cases hx; rfl⟩⟩
set_option maxRecDepth 100000 in
set_option maxHeartbeats 4000000 in
theorem works9_run (w : World) (hm : Hid (Ml w)) (ht : Hid (Tab w)) :
  Calls Tryz.prog 25 #[] w fun e w' => e = .returned (.bool true) ∧ Below w.heap.size w w' := by
 have HI : Hid (∀ V, Ml V → Calls Tryz.prog 26 #[.string ⟨#[48, 120, 95, 102, 70]⟩] V fun e w' => e = .returned (.tuple #[intV false 255, .nilIface]) ∧ Below V.heap.size V w') := fun V hV => Int_run [48, 120, 95, 102, 70] 0 255 V (by decide) int_ex hV
 have HF : Hid (∀ V, Ml V → Calls Tryz.prog 29 #[.string ⟨#[49, 95, 48, 46, 50, 53, 101, 49]⟩] V fun e w' => e = .returned (.tuple #[ratV false 205 false 2, .nilIface]) ∧ Below V.heap.size V w') := fun V hV => Float_run [49, 95, 48, 46, 50, 53, 101, 49] ⟨false, 205, 2, 0⟩ V (by decide) float_ex hV
 have HX : Hid (∀ V, Tab V → Calls Tryz.prog 33 #[intV false 255] V fun e w' => e = .returned (.string ⟨#[50, 53, 53]⟩) ∧ Below V.heap.size V w') := fun V hV => by
  have := Text_run false 255 V (fits_of (by decide)) hV
  rwa [txt_255] at this
 have HY : Hid (∀ V, Tab V → Calls Tryz.prog 20 #[ratV false 205 false 2] V fun e w' => e = .returned (.string ⟨#[50, 48, 53, 47, 50]⟩) ∧ Below V.heap.size V w') := fun V hV => by
  have := RText_run false 205 false 2 (fits_of (by decide)) (fits_of (by decide)) V hV
  rwa [txt_205] at this
 have HCD : Hid (∀ V, Calls Tryz.prog 17 #[.iface 74 (.int .i64 13)] V fun e w' => e = .returned (.int .i64 13) ∧ Below V.heap.size V w') := fun V => code_errV 13 (by decide) V
 have HML : Hid (∀ V, Below w.heap.size w V → Ml V) := fun V hV => hm.out.below hV
 have HTB : Hid (∀ V, Below w.heap.size w V → Tab V) := fun V hV => ht.out.below hV
 obtain ⟨S, hS⟩ : ∃ S, w.heap.size = S := ⟨_, rfl⟩
 have I := Lib.hid (Bs.start w hS)
 rw [hS] at HML HTB
 rw [hS]
 clear ht
 go_enter Tryz.func25, Tryz.ntmps25
 go_wp2_with fail
 refine (HI.out _ hm).mono ?_
 rintro e w1 ⟨rfl, hw⟩
 have I1 := Lib.hid (I.out.below hw)
 clear hw I hm hS
 obtain ⟨N, hN⟩ : ∃ N, w1.heap.size = N := ⟨_, rfl⟩
 have J2 := I1.out.pushIntZ hN 25
 obtain ⟨a1, ha⟩ : ∃ x, w1.alloc (boxIZ 25) = x := ⟨_, rfl⟩
 rw [ha] at J2
 have H2 := Lib.hid (J2.int 0 rfl)
 have I2 := Lib.hid (J2.putInt 0 rfl false 255 rfl)
 clear J2 I1
 go_upto_region 2 with (with_reducible refine wpList_store_int rfl (.tmp 1) (.tmp 10) rfl (b := N) (s := false) (n := 255) rfl rfl H2.out ?_)
 clear H2 ha hN
 generalize st9 a1 N false 255 = w2 at *
 go_wp2_with fail
 refine (HF.out _ (HML.out _ I2.out.bl)).mono ?_
 rintro e w3 ⟨rfl, hw⟩
 have I3 := Lib.hid (I2.out.below hw)
 clear hw I2
 obtain ⟨R, hR⟩ : ∃ R, w3.heap.size = R := ⟨_, rfl⟩
 have J4 := I3.out.pushRatZ hR 27
 obtain ⟨a3, ha⟩ : ∃ x, w3.alloc (boxRZ 27) = x := ⟨_, rfl⟩
 rw [ha] at J4
 have H4 := Lib.hid (J4.rat 0 rfl)
 have I4 := Lib.hid (J4.putRat 0 rfl false 205 false 2 rfl)
 clear J4 I3
 go_upto_region 3 with (with_reducible refine wpList_store_rat rfl (.tmp 3) (.tmp 14) rfl (b := R) (s := false) (n := 205) (t := false) (d := 2) rfl rfl H4.out ?_)
 clear H4 ha hR
 generalize st18 a3 R false 205 false 2 = w4 at *
 have hcl := conv_lit w4 #[.int .u8 48, .int .u8 56] 2 2
 simp at hcl
 have I5 := Lib.hid (I4.out.alloc (.cells #[.int .u8 48, .int .u8 56] 5 (2, 3)))
 have HB := Lib.hid (byts_new2 w4 48 56 (by omega) (by omega) 5 (2, 3))
 have HSC := Lib.hid (Scan_run (some ⟨w4.heap.size, 0, none⟩) 2 2 0 [48, 56] 2 2 13 (w4.alloc (.cells #[.int .u8 48, .int .u8 56] 5 (2, 3))) (w4.heap.size + 1) HB.out (by simp) rfl (by decide) (by decide) scan_ex (HML.out _ I5.out.bl))
 clear I4 HB
 go_wp2_with fail
 refine HSC.out.mono ?_
 rintro e w6 ⟨rfl, hw⟩
 have I6 := Lib.hid (I5.out.below hw)
 have hV : scanV 2 2 13 = .tuple #[.int .i64 2, .int .i64 2, .iface 74 (.int .i64 13)] := rfl
 rw [hV]
 clear hw I5 HSC hV hcl
 have HL := Lib.hid (I6.out.int 1 rfl)
 go_wp2_with (with_reducible refine wpList_val (v := intV false 255) rfl (ld_int (.tmp 1) rfl rfl HL.out.o) ?_)
 refine (HX.out _ (HTB.out _ I6.out.bl)).mono ?_
 rintro e w7 ⟨rfl, hw⟩
 have I7 := Lib.hid (I6.out.below hw)
 clear hw I6 HL
 have HL := Lib.hid (I7.out.rat 0 rfl)
 go_wp2_with (with_reducible refine wpList_val (v := ratV false 205 false 2) rfl (ld_rat (.tmp 3) rfl rfl HL.out) ?_)
 refine (HY.out _ (HTB.out _ I7.out.bl)).mono ?_
 rintro e w8 ⟨rfl, hw⟩
 have I8 := Lib.hid (I7.out.below hw)
 clear hw I7 HL
 go_wp2_with fail
 refine (HCD.out _).mono ?_
 rintro e w9 ⟨rfl, hw⟩
 have I9 := Lib.hid (I8.out.below hw)
 clear hw I8
 go_wp2_with fail
 go_ret
 exact ⟨rfl, I9.out.bl⟩
end Go.Proofs.YtgoemhcngmpfbaaGreatDoor
namespace Go.Proofs.YtgoemhcngmpfbaaGreatDoor
open Go.RowKit Go.Sort
set_option linter.unusedSimpArgs false
theorem not_part {c : Nat} (h : isPart c = false) : ((c : Int) == 95) = false ∧ ((c : Int) == 46) = false ∧
  (((122 : Int) < (c : Int)) ∨ ((90 : Int) < (c : Int) ∧ (c : Int) < 97) ∨ ((57 : Int) < (c : Int) ∧ (c : Int) < 65) ∨ (c : Int) < 48) := by
 unfold isPart clsN at h
 rw [decide_eq_false_iff_not, Classical.not_not] at h
 split at h
 ·cases h
 ·split at h
  ·cases h
  ·split at h
   ·cases h
   ·refine ⟨beq_eq_false_iff_ne.2 (by omega), beq_eq_false_iff_ne.2 (by omega), by omega⟩
theorem ok_not {sg : Bool} {l : List UInt8} {i : Nat} {c : UInt8} (hc : l[i]? = some c) (h : okAt sg l i = false) : isPart c.toNat = false := by
 unfold okAt at h
 rw [getD_of hc, Bool.or_eq_false_iff] at h
 exact h.1
set_option maxRecDepth 100000 in
set_option maxHeartbeats 8000000 in
theorem Whole_law (A : Option Addr) (n cap a : Nat) (l : List UInt8) (w : World) (B : Nat) (hb : Byts w B A (bi l)) (hB : B ≤ w.heap.size) (hn : l.length = n) (hm : n ≤ 9223372036854775807) (hcap : n ≤ cap) (ha : a ≤ 255) (hml : Hid (Ml w)) (ht : Hid (Tab w)) :
  Calls Tryz.prog 8 #[.slice A n cap, .int .u8 (a : Int)] w fun e w' => e = .returned (.bool true) ∧ Below w.heap.size w w' := by
 obtain ⟨m, hmn⟩ : ∃ m, (l.take 60).length = m := ⟨_, rfl⟩
 have hm60 : m ≤ 60 := by rw [← hmn, List.length_take]; omega
 have hmz : min (n : Int) 60 = (m : Int) := by rw [← hmn, List.length_take, hn]; omega
 have hmc : m ≤ cap := by rw [← hmn, List.length_take]; omega
 have hb2 := hb.take 60
 rw [bi_take] at hb2
 obtain ⟨kind, k, e0, hs⟩ := scan_is (l.take 60) (a : Int)
 have HSC := Lib.hid (Scan_run A m cap (a : Int) (l.take 60) kind k e0 w B hb2 hB hmn (by omega) hmc hs hml)
 have HML : Hid (∀ V, Below w.heap.size w V → Ml V) := fun V hV => hml.out.below hV
 have HTB : Hid (∀ V, Below w.heap.size w V → Tab V) := fun V hV => ht.out.below hV
 obtain ⟨ev, hev⟩ : ∃ v, errV e0 = v := ⟨_, rfl⟩
 unfold scanV at HSC
 rw [hev] at HSC
 by_cases hk : k = 0
 ·subst hk
  rw [Int.natCast_zero] at HSC
  clear hs hev hb hb2 hml ht
  go_enter Tryz.func8, Tryz.ntmps8
  go_wp2_with fail
  refine HSC.out.mono ?_
  rintro e w1 ⟨rfl, hw⟩
  have HB1 := Lib.hid hw
  clear hw HSC
  go_wp2_with fail
  refine (works9_run w1 (HML.out _ HB1.out) (HTB.out _ HB1.out)).mono ?_
  rintro e w2 ⟨rfl, hw⟩
  have HB2 := Lib.hid (HB1.out.trans (hw.mono HB1.out.size))
  clear hw HB1
  go_wp2_with fail
  go_ret
  exact ⟨rfl, HB2.out⟩
 ·rcases hs with ⟨_, _, h, _⟩ | ⟨_, ham, _, hbn, _, _⟩
  ·exact absurd h hk
  ·rw [Int.toNat_natCast] at hbn
   rw [hmn] at ham
   have hdl : ((l.take 60).drop a).length = m - a := by rw [List.length_drop, hmn]
   have hkm : a + k ≤ m := by have := hbn.1; omega
   have hk0 : ((k : Int) == 0) = false := beq_eq_false_iff_ne.2 (by omega)
   obtain ⟨q, hq⟩ : ∃ q, a + k = q := ⟨_, rfl⟩
   have hqz : (a : Int) + (k : Int) = (q : Int) := by omega
   have hgt : ¬ (m : Int) < (q : Int) := by omega
   by_cases hqm : q = m
   ·have hqe : ((q : Int) == (m : Int)) = true := by rw [hqm]; exact beq_self_eq_true _
    clear hev hb hb2 hml ht hbn hdl hkm hq hk
    go_enter Tryz.func8, Tryz.ntmps8
    go_wp2_with fail
    refine HSC.out.mono ?_
    rintro e w1 ⟨rfl, hw⟩
    have HB1 := Lib.hid hw
    clear hw HSC
    go_wp2_with fail
    refine (works9_run w1 (HML.out _ HB1.out) (HTB.out _ HB1.out)).mono ?_
    rintro e w2 ⟨rfl, hw⟩
    have HB2 := Lib.hid (HB1.out.trans (hw.mono HB1.out.size))
    clear hw HB1
    go_wp2_with fail
    go_ret
    exact ⟨rfl, HB2.out⟩
   ·have hqe : ((q : Int) == (m : Int)) = false := beq_eq_false_iff_ne.2 (by omega)
    have hqm2 : q < m := by omega
    obtain ⟨c, hc⟩ : ∃ c, (l.take 60)[q]? = some c := ⟨(l.take 60)[q]'(by omega), List.getElem?_eq_getElem (by omega)⟩
    have hcd : ((l.take 60).drop a)[k]? = some c := by rw [List.getElem?_drop, hq]; exact hc
    have hnp := not_part (ok_not hcd (hbn.2.2 (by omega)))
    obtain ⟨b, o, rfl, _, _⟩ := hb2.2 (by rw [bi_length]; omega)
    have HBY := Lib.hid hb2
    have HC := Lib.hid hc
    have HBs := Lib.hid hB
    obtain ⟨e95, e46, hcs⟩ := hnp
    clear hev hb hb2 hml ht hbn hdl hkm hq hk hqm hc hcd hB
    go_enter Tryz.func8, Tryz.ntmps8
    go_wp2_with fail
    refine HSC.out.mono ?_
    rintro e w1 ⟨rfl, hw⟩
    have HB1 := Lib.hid hw
    have hx := byts_cell (HBY.out.below hw HBs.out) HC.out
    clear hw HSC HBY HC
    generalize c.toNat = cn at *
    go_upto_region 11 with fail
    clear hx
    have hcs := Lib.hid hcs
    rcases hcs.out with h1 | ⟨h1, h2⟩ | ⟨h1, h2⟩ | h1
    ·have f1 : (97 : Int) ≤ (cn : Int) := by omega
     have f2 : ¬ (cn : Int) ≤ 122 := by omega
     have f3 : (65 : Int) ≤ (cn : Int) := by omega
     have f4 : ¬ (cn : Int) ≤ 90 := by omega
     have f5 : (48 : Int) ≤ (cn : Int) := by omega
     have f6 : ¬ (cn : Int) ≤ 57 := by omega
     clear h1
     go_wp2_with fail
     refine (works9_run w1 (HML.out _ HB1.out) (HTB.out _ HB1.out)).mono ?_
     rintro e w2 ⟨rfl, hw⟩
     have HB2 := Lib.hid (HB1.out.trans (hw.mono HB1.out.size))
     clear hw HB1
     go_wp2_with fail
     go_ret
     exact ⟨rfl, HB2.out⟩
    ·have f1 : ¬ (97 : Int) ≤ (cn : Int) := by omega
     have f3 : (65 : Int) ≤ (cn : Int) := by omega
     have f4 : ¬ (cn : Int) ≤ 90 := by omega
     have f5 : (48 : Int) ≤ (cn : Int) := by omega
     have f6 : ¬ (cn : Int) ≤ 57 := by omega
     clear h1 h2
     go_wp2_with fail
     refine (works9_run w1 (HML.out _ HB1.out) (HTB.out _ HB1.out)).mono ?_
     rintro e w2 ⟨rfl, hw⟩
     have HB2 := Lib.hid (HB1.out.trans (hw.mono HB1.out.size))
     clear hw HB1
     go_wp2_with fail
     go_ret
     exact ⟨rfl, HB2.out⟩
    ·have f1 : ¬ (97 : Int) ≤ (cn : Int) := by omega
     have f3 : ¬ (65 : Int) ≤ (cn : Int) := by omega
     have f5 : (48 : Int) ≤ (cn : Int) := by omega
     have f6 : ¬ (cn : Int) ≤ 57 := by omega
     clear h1 h2
     go_wp2_with fail
     refine (works9_run w1 (HML.out _ HB1.out) (HTB.out _ HB1.out)).mono ?_
     rintro e w2 ⟨rfl, hw⟩
     have HB2 := Lib.hid (HB1.out.trans (hw.mono HB1.out.size))
     clear hw HB1
     go_wp2_with fail
     go_ret
     exact ⟨rfl, HB2.out⟩
    ·have f1 : ¬ (97 : Int) ≤ (cn : Int) := by omega
     have f3 : ¬ (65 : Int) ≤ (cn : Int) := by omega
     have f5 : ¬ (48 : Int) ≤ (cn : Int) := by omega
     clear h1
     go_wp2_with fail
     refine (works9_run w1 (HML.out _ HB1.out) (HTB.out _ HB1.out)).mono ?_
     rintro e w2 ⟨rfl, hw⟩
     have HB2 := Lib.hid (HB1.out.trans (hw.mono HB1.out.size))
     clear hw HB1
     go_wp2_with fail
     go_ret
     exact ⟨rfl, HB2.out⟩
end Go.Proofs.YtgoemhcngmpfbaaGreatDoor
namespace Go.Proofs.YtgoemhcngmpfbaaGreatDoor
open Go.ChangeShapes Go.WideShapes Go.ChangeAt Go.RowKit Go.Deep
section
variable {H : Type} {enc : TypeId × Value → H}
theorem returns_and_shaped {a : Assume} {C : Checked} {os : Os} {f : FuncId} {fn : Func} {s : ChangeSpec} {conds : List PathCond} {apart fresh handsOn again : Bool} {X : World → Array Value → Prop}
  (hX : ∀ (w w' : World) (args : Array Value), w.heap = w'.heap → X w args → X w' args)
  (own : ownKnob C.prog.godebug = none) (started : os.Started) (noInit : C.prog.inits.idxOf? f = none) (hfn : C.prog.funcs[f]? = some fn)
  (witness : ∃ (w : World) (tape : Tape) (i : Input), w.os = os ∧ (w.forCall tape i).Shaped C.prog ∧ i.vars = [] ∧ Input.okWide C.prog (w.forCall tape i) .any w.heap.size f i ∧
   ((s.pre enc C.prog fn conds apart (w.forCall tape i).memory i.args ∧ X (w.forCall tape i).memory i.args) ∧ sizedMet enc C.prog fn (OpenSpec.ofChange s) apart (w.forCall tape i).memory i.args) ∧ a.holds C.prog (lone (Frame.enter C.prog f i.args .normal) [] (w.forCall tape i)))
  (walk : ∀ (W : World) (base : Nat) (args : Array Value) (ds gs : List (DataW H)) (before : List MemPlace),
   (∀ (j : Nat) t v, fn.params[j]? = some t → args[j]? = some v → Value.okWide C.prog W .any base t v) →
   DataW.Whole enc C.prog fn.params.toList s.vars apart W args.toList ds gs before → X W args → W.ShapedOpen C.prog →
   Calls C.prog f args W fun e W' => ∃ v, e = .returned v ∧ s.post enc C.prog fn apart fresh handsOn again W args v W') :
  ReturnsInHanded a C os f .any (fun w args => (s.pre enc C.prog fn conds apart w args ∧ X w args) ∧ sizedMet enc C.prog fn (OpenSpec.ofChange s) apart w args) (s.post enc C.prog fn apart fresh handsOn again) := by
 refine returnsInHanded_of_calls own started noInit witness ?_
 intro w tape i _ hsh _ hok hpre _
 obtain ⟨_, _, _, fn', hfn', _, _, _, _, hval⟩ := hok
 obtain rfl : fn' = fn := Option.some.inj (hfn'.symm.trans hfn)
 obtain ⟨⟨⟨ds, gs, before, hw, _⟩, hx⟩, _⟩ := hpre
 refine (walk (w.forCall tape i) w.heap.size i.args ds gs before hval (DataW.Whole.of_heap (w' := w.forCall tape i) (by rfl) hw) (hX _ _ _ (by rfl) hx) hsh).mono fun e W' ⟨v, he, hp⟩ => ?_
 subst he
 exact ChangeSpec.post_blind hp
end
theorem ml_of {W : World} (h : W.ShapedOpen Tryz.prog) : Ml W :=
 cell_of_shapedOpen_int (P := Tryz.prog) (g := 2) (t := 3) (zero := #[.int .i64 0]) h (of_decide_eq_true (by kernel_rfl)) (by kernel_rfl) rfl (by kernel_rfl) (by kernel_rfl) Tryz.underlying3
def laid9n : List (String × DataW Unit) := Rows.numberWholeRow.laid
def great9n : List String := laid9n.map fun x => x.1
noncomputable def door9n (os : Os) : World := (World.doorLaid Tryz.prog 72 os).layVars Tryz.prog (laid9n.filter fun x => great9n.contains x.1)
theorem door9n_os (os : Os) : (door9n os).os = os := World.layVars_os _ _ _
theorem none9n : (laid9n.filter fun x => !great9n.contains x.1) = [] := by kernel_rfl
theorem all9n : (laid9n.filter fun x => x.2.handleName?.isNone) = laid9n := by kernel_rfl
theorem data_met9n (os : Os) : laidMet Tryz.prog laid9n (door9n os) :=
 laidMet_layVars (w0 := World.doorLaid Tryz.prog 72 os) (w' := door9n os) (laid := laid9n) great9n [] (by unfold door9n; rfl) (by kernel_rfl) (by kernel_rfl) (by rw [none9n]; exact LaidIn.none)
theorem all_met9n (os : Os) : laidMetH Tryz.prog laid9n (door9n os) :=
 laidMetH_of_parts3 (fuel := 8) (by rw [all9n]; exact data_met9n os) (by kernel_rfl) (by kernel_rfl)
theorem door_met9n (os : Os) (args : Array Value) : laidMetH Tryz.prog laid9n ((door9n os).forCall (fun _ _ => 0) ⟨#[], args, []⟩).memory :=
 (all_met9n os).of_heap (by simp [World.memory, World.forCall, Input.heap])
theorem of_laid9n {W : World} (h : laidMetH Tryz.prog laid9n W) : Tab W := by
 have h' : laidMet Tryz.prog [("math/bits.deBruijn32tab", Rows.laid_math_bits_deBruijn32tab), ("math/bits.deBruijn64tab", Rows.laid_math_bits_deBruijn64tab), ("internal/strconv.uint64pow10", Rows.laid_internal_strconv_uint64pow10), ("unicode/utf8.acceptRanges", Rows.laid_unicode_utf8_acceptRanges), ("strconv.ErrRange", Rows.laid_strconv_ErrRange), ("strconv.ErrSyntax", Rows.laid_strconv_ErrSyntax), ("unicode/utf8.first", Rows.laid_unicode_utf8_first)] W := h
 exact tab_of (laidMet_tl (laidMet_tl h'))
theorem bi_back : ∀ (l : List Int), U.Byt l → ∃ m : List UInt8, bi m = l
 | [], _ => ⟨[], rfl⟩
 | x :: t, h => by
  obtain ⟨m, hm⟩ := bi_back t (fun y hy => h y (List.mem_cons_of_mem _ hy))
  have hx := h x List.mem_cons_self
  refine ⟨UInt8.ofNat x.toNat :: m, ?_⟩
  show ((UInt8.ofNat x.toNat).toNat : Int) :: bi m = _
  rw [hm]
  congr 1
  simp only [UInt8.toNat_ofNat']
  omega
end Go.Proofs.YtgoemhcngmpfbaaGreatDoor
namespace Go.Proofs.YtgoemhcngmpfbaaGreatDoor
open Go.RowKit Go.Sort
theorem whole_any (A : Option Addr) (n cap : Nat) (l : List Int) (a : Int) (W : World) (hb : Byts W W.heap.size A l) (hl : l.length = n) (hc : n ≤ cap) (hm : cap ≤ 9223372036854775807) (ha0 : 0 ≤ a) (ha1 : a ≤ 255) (hs : Ml W) (hh : Tab W) :
  Calls Tryz.prog 8 #[.slice A n cap, .int .u8 a] W fun e w' => e = .returned (.bool true) ∧ Below W.heap.size W w' := by
 obtain ⟨m, rfl⟩ := bi_back l hb.1
 obtain ⟨k, rfl⟩ : ∃ k : Nat, a = (k : Int) := ⟨a.toNat, by omega⟩
 rw [bi_length] at hl
 exact Whole_law A n cap k m W W.heap.size hb (Nat.le_refl _) hl (by omega) hc (by omega) hs hh
end Go.Proofs.YtgoemhcngmpfbaaGreatDoor
