/-
  Texts of digits, as mathematics: the value of a digit, of a text by a base, what Parse answers.
-/
import Derived.Test.YtgoemhcngmpfbaaGreatDoorMv14
import Derived.Test.YtgoemhcngmpfbaaGreatDoorMv07
namespace Go.Proofs.YtgoemhcngmpfbaaGreatDoor
open Go.RowKit
def dvN (c : Nat) : Nat := if 48 ≤ c ∧ c ≤ 57 then c - 48 else if 97 ≤ c ∧ c ≤ 102 then c - 87 else if 65 ≤ c ∧ c ≤ 70 then c - 55 else 16
theorem dvN_le (c : Nat) : dvN c ≤ 16 := by unfold dvN; split; · omega
                                            split; · omega
                                            split <;> omega
def num (B : Nat) (l : List UInt8) : Nat := l.foldl (fun a c => a * B + dvN c.toNat) 0
theorem num_nil (B : Nat) : num B [] = 0 := rfl
theorem num_snoc (B : Nat) (l : List UInt8) (c : UInt8) : num B (l ++ [c]) = num B l * B + dvN c.toNat := by unfold num; rw [List.foldl_append]; rfl
theorem foldl_ge {B : Nat} (hB : 1 ≤ B) : ∀ (m : List UInt8) (a : Nat), a ≤ m.foldl (fun a c => a * B + dvN c.toNat) a
  | [], _ => Nat.le_refl _
  | _ :: m, a => Nat.le_trans (Nat.le_trans (Nat.le_mul_of_pos_right a hB) (Nat.le_add_right _ _)) (foldl_ge hB m _)
theorem num_take {B : Nat} (hB : 1 ≤ B) (l : List UInt8) (i : Nat) : num B (l.take i) ≤ num B l := by
  have h : num B l = (l.drop i).foldl (fun a c => a * B + dvN c.toNat) (num B (l.take i)) := by
    unfold num
    rw [← List.foldl_append, List.take_append_drop]
  rw [h]
  exact foldl_ge hB _ _
theorem take_succ_of {l : List UInt8} {i : Nat} {c : UInt8} (h : l[i]? = some c) : l.take (i + 1) = l.take i ++ [c] := by
  rw [List.take_add_one, h]
  rfl
def okDig (B : Nat) (l : List UInt8) : Bool := l.all fun c => decide (dvN c.toNat < B)
theorem okDig_get {B : Nat} {l : List UInt8} (h : okDig B l = true) {i : Nat} {c : UInt8} (hc : l[i]? = some c) : dvN c.toNat < B := by
  have := List.all_eq_true.1 h c (List.mem_of_getElem? hc)
  simpa using this
theorem okDig_not {B : Nat} {l : List UInt8} {i : Nat} {c : UInt8} (hc : l[i]? = some c) (h : ¬ dvN c.toNat < B) : okDig B l = false := by
  cases e : okDig B l
  · rfl
  · exact absurd (okDig_get e hc) h
theorem okDig_of {B : Nat} {l : List UInt8} (h : ∀ (i : Nat) (c : UInt8), l[i]? = some c → dvN c.toNat < B) : okDig B l = true := by
  refine List.all_eq_true.2 fun c hc => ?_
  obtain ⟨i, hi⟩ := List.mem_iff_getElem?.1 hc
  simpa using h i c hi
def parK (B : Nat) (l : List UInt8) : Nat := if l = [] then 12 else if okDig B l = false then 13 else if num B l < 18446744073709551616 ^ 8 then 0 else 9
def parN (B : Nat) (l : List UInt8) : Nat := if parK B l = 0 then num B l else 0
theorem parK_nil (B : Nat) : parK B [] = 12 := if_pos rfl
theorem parK_dig {B : Nat} {l : List UInt8} (h : okDig B l = false) (hl : l ≠ []) : parK B l = 13 := by unfold parK; rw [if_neg hl, if_pos h]
theorem parK_over {B : Nat} {l : List UInt8} (h : okDig B l = true) (hl : l ≠ []) (hf : ¬ Fits (num B l)) : parK B l = 9 := by unfold parK; rw [if_neg hl, if_neg (by rw [h]; decide)]; exact if_neg hf
theorem parK_ok {B : Nat} {l : List UInt8} (h : okDig B l = true) (hl : l ≠ []) (hf : Fits (num B l)) : parK B l = 0 := by unfold parK; rw [if_neg hl, if_neg (by rw [h]; decide)]; exact if_pos hf
theorem parN_ok {B : Nat} {l : List UInt8} (h : parK B l = 0) : parN B l = num B l := if_pos h
theorem parN_no {B : Nat} {l : List UInt8} (h : parK B l ≠ 0) : parN B l = 0 := if_neg h
theorem parK_cases (B : Nat) (l : List UInt8) : parK B l = 0 ∨ parK B l = 9 ∨ parK B l = 12 ∨ parK B l = 13 := by
  unfold parK
  split
  · simp
  · split
    · simp
    · split <;> simp
theorem parN_fits (B : Nat) (l : List UInt8) : Fits (parN B l) := by
  by_cases h : parK B l = 0
  · rw [parN_ok h]
    unfold parK at h
    split at h
    · cases h
    · split at h
      · cases h
      · split at h
        · assumption
        · cases h
  · rw [parN_no h]
    exact Nat.pow_pos (by decide)
end Go.Proofs.YtgoemhcngmpfbaaGreatDoor
namespace Go.Proofs.YtgoemhcngmpfbaaGreatDoor
open Go.RowKit Go.Sort
set_option linter.unusedSimpArgs false
set_option maxRecDepth 100000 in
set_option maxHeartbeats 2000000 in
theorem digit_runL (c : Nat) (h : c < 256) (w : World) :
  Calls Tryz.prog 99 #[.int .u8 (c : Int)] w fun e w' => e = .returned (.int .i64 (dvN c : Int)) ∧ w' = w := by
 have hc : c < 48 ∨ (48 ≤ c ∧ c ≤ 57) ∨ (57 < c ∧ c < 65) ∨ (65 ≤ c ∧ c ≤ 70) ∨ (70 < c ∧ c < 97) ∨ (97 ≤ c ∧ c ≤ 102) ∨ 102 < c := by omega
 rcases hc with hc | hc | hc | hc | hc | hc | hc
 ·have h1 : ¬ (48 : Int) ≤ (c : Int) := by omega
  have h3 : ¬ (97 : Int) ≤ (c : Int) := by omega
  have h5 : ¬ (65 : Int) ≤ (c : Int) := by omega
  have hd : dvN c = 16 := by unfold dvN; rw [if_neg (by omega), if_neg (by omega), if_neg (by omega)]
  rw [hd]
  clear hc hd
  go_enter Tryz.func99, Tryz.ntmps99
  go_wp2_with fail
  go_ret
  exact ⟨rfl, rfl⟩
 ·have h1 : (48 : Int) ≤ (c : Int) := by omega
  have h2 : (c : Int) ≤ 57 := by omega
  have hd : (dvN c : Int) = (c : Int) - 48 := by unfold dvN; rw [if_pos (by omega)]; omega
  rw [hd]
  clear hc hd
  go_enter Tryz.func99, Tryz.ntmps99
  go_wp2_with fail
  go_ret
  exact ⟨rfl, rfl⟩
 ·have h1 : (48 : Int) ≤ (c : Int) := by omega
  have h2 : ¬ (c : Int) ≤ 57 := by omega
  have h3 : ¬ (97 : Int) ≤ (c : Int) := by omega
  have h5 : ¬ (65 : Int) ≤ (c : Int) := by omega
  have hd : dvN c = 16 := by unfold dvN; rw [if_neg (by omega), if_neg (by omega), if_neg (by omega)]
  rw [hd]
  clear hc hd
  go_enter Tryz.func99, Tryz.ntmps99
  go_wp2_with fail
  go_ret
  exact ⟨rfl, rfl⟩
 ·have h1 : (48 : Int) ≤ (c : Int) := by omega
  have h2 : ¬ (c : Int) ≤ 57 := by omega
  have h3 : ¬ (97 : Int) ≤ (c : Int) := by omega
  have h5 : (65 : Int) ≤ (c : Int) := by omega
  have h6 : (c : Int) ≤ 70 := by omega
  have hd : (dvN c : Int) = (c : Int) - 65 + 10 := by unfold dvN; rw [if_neg (by omega), if_neg (by omega), if_pos (by omega)]; omega
  rw [hd]
  clear hc hd
  go_enter Tryz.func99, Tryz.ntmps99
  go_wp2_with fail
  go_ret
  exact ⟨rfl, rfl⟩
 ·have h1 : (48 : Int) ≤ (c : Int) := by omega
  have h2 : ¬ (c : Int) ≤ 57 := by omega
  have h3 : ¬ (97 : Int) ≤ (c : Int) := by omega
  have h5 : (65 : Int) ≤ (c : Int) := by omega
  have h6 : ¬ (c : Int) ≤ 70 := by omega
  have hd : dvN c = 16 := by unfold dvN; rw [if_neg (by omega), if_neg (by omega), if_neg (by omega)]
  rw [hd]
  clear hc hd
  go_enter Tryz.func99, Tryz.ntmps99
  go_wp2_with fail
  go_ret
  exact ⟨rfl, rfl⟩
 ·have h1 : (48 : Int) ≤ (c : Int) := by omega
  have h2 : ¬ (c : Int) ≤ 57 := by omega
  have h3 : (97 : Int) ≤ (c : Int) := by omega
  have h4 : (c : Int) ≤ 102 := by omega
  have hd : (dvN c : Int) = (c : Int) - 97 + 10 := by unfold dvN; rw [if_neg (by omega), if_pos (by omega)]; omega
  rw [hd]
  clear hc hd
  go_enter Tryz.func99, Tryz.ntmps99
  go_wp2_with fail
  go_ret
  exact ⟨rfl, rfl⟩
 ·have h1 : (48 : Int) ≤ (c : Int) := by omega
  have h2 : ¬ (c : Int) ≤ 57 := by omega
  have h3 : (97 : Int) ≤ (c : Int) := by omega
  have h4 : ¬ (c : Int) ≤ 102 := by omega
  have h5 : (65 : Int) ≤ (c : Int) := by omega
  have h6 : ¬ (c : Int) ≤ 70 := by omega
  have hd : dvN c = 16 := by unfold dvN; rw [if_neg (by omega), if_neg (by omega), if_neg (by omega)]
  rw [hd]
  clear hc hd
  go_enter Tryz.func99, Tryz.ntmps99
  go_wp2_with fail
  go_ret
  exact ⟨rfl, rfl⟩
theorem index_at {s : ByteArray} {i : Nat} {b : UInt8} (h : s.data.toList[i]? = some b) (W : World) : (Instr.index 9 (.string s) (.int .i64 (i : Int))).run Tryz.prog W = .ok (.int .u8 (b.toNat : Int)) W := by
 obtain ⟨hi, he⟩ := List.getElem?_eq_some_iff.1 h
 have hi2 : i < s.size := by simpa using hi
 rw [run_index_string _ _ _ _ _ Tryz.underlying9, dif_pos (by omega)]
 have : s[(i : Int).toNat]'(by simpa using hi2) = b := by
  rw [← he]
  simp
  rfl
 rw [this]
end Go.Proofs.YtgoemhcngmpfbaaGreatDoor
namespace Go.Proofs.YtgoemhcngmpfbaaGreatDoor
open Go.RowKit
theorem bts_cells (s : ByteArray) : s.data.map (fun b => Value.int .u8 b.toNat) = ((bts s).map fun x => Value.int .u8 x).toArray := by
 apply Array.ext'
 simp [bts, Function.comp_def]
theorem run_conv_str (w : World) (s : ByteArray) (hs : s.size ≤ maxLen) : ∃ cap w', (convert 9 48 (.string s)).run Tryz.prog w = .ok (.slice (some ⟨w.heap.size, 0, none⟩) s.size cap) w' ∧ s.size ≤ cap ∧ cap ≤ maxLen ∧ Byts w' w'.heap.size (some ⟨w.heap.size, 0, none⟩) (bts s) ∧ Below w.heap.size w w' := by
 refine ⟨_, _, run_bytes_of_string w _ _ _ s Tryz.underlying9 Tryz.underlying48 Tryz.underlying5, grownCap_ge _ _ _ _, grownCap_le_maxLen _ _ _ _ hs, ⟨bts_byt s, fun _ => ⟨_, _, rfl, by simp, fun i x hx => ?_⟩⟩, ?_⟩
 ·have := World.cell?_alloc_mark w.drew (bytesRow s (grownCap w s.size 0 5)) 5 ((bytesRow s (grownCap w s.size 0 5)).size, (bytesRow s (grownCap w s.size 0 5)).size + 1) (0 + i)
  rw [show w.drew.heap.size = w.heap.size from rfl] at this
  rw [this, bytesRow, bts_cells, Nat.zero_add]
  have hi := (List.getElem?_eq_some_iff.1 hx).1
  rw [Array.getElem?_append_left (by simpa using hi)]
  simp [hx]
 ·exact (Below.refl _ w).drew.alloc (Nat.le_refl _) _
end Go.Proofs.YtgoemhcngmpfbaaGreatDoor
namespace Go.Proofs.YtgoemhcngmpfbaaGreatDoor
open Go.RowKit Go.Sort
set_option linter.unusedSimpArgs false
def txt (s : Bool) (n : Nat) : ByteArray := if sgn s n then (⟨#[45]⟩ : ByteArray) ++ decS n else decS n
theorem enters_Text : EntersP Tryz.prog 33 := entersP_of Tryz.func33 (by kernel_rfl) rfl
end Go.Proofs.YtgoemhcngmpfbaaGreatDoor
namespace Go.Proofs.YtgoemhcngmpfbaaGreatDoor
open Go.RowKit Go.Sort
set_option linter.unusedSimpArgs false
def mulV (s : Bool) (n : Nat) (t : Bool) (d : Nat) (s' : Bool) (n' : Nat) (t' : Bool) (d' : Nat) : Value :=
 opV (kept (chk s n t d) (chk s' n' t' d')) (resS (s != s') (n * n')) (resN (n * n')) (resK (n * n')) (resS (t != t') (d * d')) (resN (d * d')) (resK (d * d'))
def quoV (s : Bool) (n : Nat) (t : Bool) (d : Nat) (s' : Bool) (n' : Nat) (t' : Bool) (d' : Nat) : Value :=
 opV (kept (kept (chk s n t d) (chk s' n' t' d')) (if n' = 0 then 10 else 0)) (resS (s != t') (n * d')) (resN (n * d')) (resK (n * d')) (resS (t != s') (d * n')) (resN (d * n')) (resK (d * n'))
set_option maxRecDepth 100000 in
set_option maxHeartbeats 4000000 in
theorem RMul_run (s : Bool) (n : Nat) (t : Bool) (d : Nat) (s' : Bool) (n' : Nat) (t' : Bool) (d' : Nat) (w : World) (hn : Hid (Fits n)) (hd : Hid (Fits d)) (hn' : Hid (Fits n')) (hd' : Hid (Fits d')) :
  Calls Tryz.prog 110 #[ratV s n t d, ratV s' n' t' d'] w fun e w' => e = .returned (mulV s n t d s' n' t' d') ∧ Below w.heap.size w w' := by
 obtain ⟨S, hS⟩ : ∃ S, w.heap.size = S := ⟨_, rfl⟩
 obtain ⟨W, hW⟩ : ∃ W, ((w.alloc (boxR s n t d 27)).alloc (boxR s' n' t' d' 27)).alloc (boxRZ 27) = W := ⟨_, rfl⟩
 have T := op_boxes w s n t d s' n' t' d' 27
 rw [hW, hS] at T
 rw [hS]
 have HT := Lib.hid T
 have hWs := Lib.hid T.2.2.2.2
 clear T
 have HBG := Lib.hid (fun W => begin_run s n t d s' n' t' d' W hn hd hn' hd')
 unfold mulV
 generalize kept (chk s n t d) (chk s' n' t' d') = k0 at *
 have HD1 : Hid (∀ W B, Hid (ErrAt W B k0) → Calls Tryz.prog 39 #[.pointer (some ⟨B, 0, none⟩), fnV 93, intV s n, intV s' n'] W fun e w' => e = .returned (intV (doS k0 (resS (s != s') (n * n'))) (doN k0 (resN (n * n')))) ∧ Ste W w' B (kept k0 (resK (n * n')))) := fun W B h => do_mul B k0 s n s' n' W h hn hn'
 have hf3 : Hid (Fits (doN k0 (resN (n * n')))) := doN_fits _ (resN_fits _)
 unfold opV
 generalize resK (n * n') = j3 at *
 generalize doS k0 (resS (s != s') (n * n')) = z3 at *
 generalize doN k0 (resN (n * n')) = r3 at *
 have HD2 : Hid (∀ W B, Hid (ErrAt W B (kept k0 j3)) → Calls Tryz.prog 39 #[.pointer (some ⟨B, 0, none⟩), fnV 93, intV t d, intV t' d'] W fun e w' => e = .returned (intV (doS (kept k0 j3) (resS (t != t') (d * d'))) (doN (kept k0 j3) (resN (d * d')))) ∧ Ste W w' B (kept (kept k0 j3) (resK (d * d')))) := fun W B h => do_mul B (kept k0 j3) t d t' d' W h hd hd'
 have hf4 : Hid (Fits (doN (kept k0 j3) (resN (d * d')))) := doN_fits _ (resN_fits _)
 generalize resK (d * d') = j4 at *
 generalize doS (kept k0 j3) (resS (t != t') (d * d')) = z4 at *
 generalize doN (kept k0 j3) (resN (d * d')) = r4 at *
 have HR := Lib.hid (fun W B (h : Hid (ErrAt W B (kept (kept k0 j3) j4))) => ratio_run B (kept (kept k0 j3) j4) z3 r3 z4 r4 W h hf3 hf4)
 generalize rtS (kept (kept k0 j3) j4) z3 r3 z4 r4 = z5 at *
 generalize rtN (kept (kept k0 j3) j4) r3 r4 = q5 at *
 generalize rtD (kept (kept k0 j3) j4) r3 r4 = p5 at *
 generalize errV (rtK (kept (kept k0 j3) j4) r4) = v5 at *
 clear hn hd hn' hd'
 go_enter Tryz.func110, Tryz.ntmps110
 go_wp2_with (first | (refine wpList_box_rat rfl (.tmp 0) rfl rfl ?_) | (refine wpList_box_rat rfl (.tmp 1) rfl rfl ?_) | (refine wpList_load_rat rfl (.tmp 2) rfl rfl HT.out.1 ?_) | (refine wpList_load_rat rfl (.tmp 3) rfl rfl HT.out.2.1 ?_))
 refine (HBG.out _).mono ?_
 rintro e w1 ⟨B, rfl, hB, hP, hw1⟩
 have hI1 : OpInv w w1 S B k0 s n t d s' n' t' d' := by
  have hz := hWs.out
  exact ⟨HT.out.1.keep hw1 (by omega), HT.out.2.1.keep hw1 (by omega), HT.out.2.2.1.keep hw1 (by omega), hP.err, HT.out.2.2.2.1.trans (hw1.mono (by omega)), by omega, hP.err.lt⟩
 have hSB := hI1.hB
 have HI4 := Lib.hid hI1
 clear hI1 hP hw1 hB hW HT hWs HBG
 go_wp2_with fail
 refine rg_begin (fun W' => RatAt W' S s n t d ∧ RatAt W' (S + 1) s' n' t' d') (by kernel_rfl) ⟨HI4.out.ra.drew, HI4.out.rb.drew⟩ (fun hS => ?_)
 refine rg_take 0 (.pointer (some ⟨B, 0, none⟩)) rfl (by kernel_rfl) (by kernel_rfl) (by kernel_rfl) (fun _ _ _ h => h) rfl (fun w _ => ?_) hS ?_
 ·go_simp
 simp only [List.getElem_toArray, List.getElem_cons_zero, List.getElem_cons_succ, Act.put, List.setIfInBounds_toArray, List.set_cons_zero, List.set_cons_succ]
 refine rg_take 1 (.pointer (some ⟨B, 0, none⟩)) rfl (by kernel_rfl) (by kernel_rfl) (by kernel_rfl) (fun _ _ _ h => h) rfl (fun w _ => ?_) hS ?_
 ·go_simp
 simp only [List.getElem_toArray, List.getElem_cons_zero, List.getElem_cons_succ, Act.put, List.setIfInBounds_toArray, List.set_cons_zero, List.set_cons_succ]
 refine rg_take 2 (.pointer (some ⟨B, 0, none⟩)) rfl (by kernel_rfl) (by kernel_rfl) (by kernel_rfl) (fun _ _ _ h => h) rfl (fun w _ => ?_) hS ?_
 ·go_simp
 simp only [List.getElem_toArray, List.getElem_cons_zero, List.getElem_cons_succ, Act.put, List.setIfInBounds_toArray, List.set_cons_zero, List.set_cons_succ]
 refine rg_take 3 (.pointer (some ⟨B, 0, none⟩)) rfl (by kernel_rfl) (by kernel_rfl) (by kernel_rfl) (fun _ _ _ h => h) rfl (fun w _ => ?_) hS ?_
 ·go_simp
 simp only [List.getElem_toArray, List.getElem_cons_zero, List.getElem_cons_succ, Act.put, List.setIfInBounds_toArray, List.set_cons_zero, List.set_cons_succ]
 refine rg_take 4 (.pointer (some ⟨S, 0, none⟩)) rfl (by kernel_rfl) (by kernel_rfl) (by kernel_rfl) (fun _ _ _ h => h) rfl (fun w _ => ?_) hS ?_
 ·go_simp
 simp only [List.getElem_toArray, List.getElem_cons_zero, List.getElem_cons_succ, Act.put, List.setIfInBounds_toArray, List.set_cons_zero, List.set_cons_succ]
 refine rg_take 5 (intV s n) rfl (by kernel_rfl) (by kernel_rfl) (by kernel_rfl) (fun _ _ _ h => h) rfl (fun w hSw => ld_int (.tmp 14) rfl rfl hSw.1.num) hS ?_
 simp only [List.getElem_toArray, List.getElem_cons_zero, List.getElem_cons_succ, Act.put, List.setIfInBounds_toArray, List.set_cons_zero, List.set_cons_succ]
 refine rg_take 6 (.pointer (some ⟨S + 1, 0, none⟩)) rfl (by kernel_rfl) (by kernel_rfl) (by kernel_rfl) (fun _ _ _ h => h) rfl (fun w _ => ?_) hS ?_
 ·go_simp
 simp only [List.getElem_toArray, List.getElem_cons_zero, List.getElem_cons_succ, Act.put, List.setIfInBounds_toArray, List.set_cons_zero, List.set_cons_succ]
 refine rg_take 7 (intV s' n') rfl (by kernel_rfl) (by kernel_rfl) (by kernel_rfl) (fun _ _ _ h => h) rfl (fun w hSw => ld_int (.tmp 16) rfl rfl hSw.2.num) hS ?_
 simp only [List.getElem_toArray, List.getElem_cons_zero, List.getElem_cons_succ, Act.put, List.setIfInBounds_toArray, List.set_cons_zero, List.set_cons_succ]
 refine rg_take 9 (.pointer (some ⟨B, 0, none⟩)) rfl (by kernel_rfl) (by kernel_rfl) (by kernel_rfl) (fun _ _ _ h => h) rfl (fun w _ => ?_) hS ?_
 ·go_simp
 simp only [List.getElem_toArray, List.getElem_cons_zero, List.getElem_cons_succ, Act.put, List.setIfInBounds_toArray, List.set_cons_zero, List.set_cons_succ]
 refine rg_take 10 (.pointer (some ⟨B, 0, none⟩)) rfl (by kernel_rfl) (by kernel_rfl) (by kernel_rfl) (fun _ _ _ h => h) rfl (fun w _ => ?_) hS ?_
 ·go_simp
 simp only [List.getElem_toArray, List.getElem_cons_zero, List.getElem_cons_succ, Act.put, List.setIfInBounds_toArray, List.set_cons_zero, List.set_cons_succ]
 refine rg_take 11 (.pointer (some ⟨B, 0, none⟩)) rfl (by kernel_rfl) (by kernel_rfl) (by kernel_rfl) (fun _ _ _ h => h) rfl (fun w _ => ?_) hS ?_
 ·go_simp
 simp only [List.getElem_toArray, List.getElem_cons_zero, List.getElem_cons_succ, Act.put, List.setIfInBounds_toArray, List.set_cons_zero, List.set_cons_succ]
 refine rg_take 12 (.pointer (some ⟨S, 9, none⟩)) rfl (by kernel_rfl) (by kernel_rfl) (by kernel_rfl) (fun _ _ _ h => h) rfl (fun w _ => ?_) hS ?_
 ·go_simp
 simp only [List.getElem_toArray, List.getElem_cons_zero, List.getElem_cons_succ, Act.put, List.setIfInBounds_toArray, List.set_cons_zero, List.set_cons_succ]
 refine rg_take 13 (intV t d) rfl (by kernel_rfl) (by kernel_rfl) (by kernel_rfl) (fun _ _ _ h => h) rfl (fun w hSw => ld_int (.tmp 22) rfl rfl hSw.1.den) hS ?_
 simp only [List.getElem_toArray, List.getElem_cons_zero, List.getElem_cons_succ, Act.put, List.setIfInBounds_toArray, List.set_cons_zero, List.set_cons_succ]
 refine rg_take 14 (.pointer (some ⟨S + 1, 9, none⟩)) rfl (by kernel_rfl) (by kernel_rfl) (by kernel_rfl) (fun _ _ _ h => h) rfl (fun w _ => ?_) hS ?_
 ·go_simp
 simp only [List.getElem_toArray, List.getElem_cons_zero, List.getElem_cons_succ, Act.put, List.setIfInBounds_toArray, List.set_cons_zero, List.set_cons_succ]
 refine rg_take 15 (intV t' d') rfl (by kernel_rfl) (by kernel_rfl) (by kernel_rfl) (fun _ _ _ h => h) rfl (fun w hSw => ld_int (.tmp 24) rfl rfl hSw.2.den) hS ?_
 simp only [List.getElem_toArray, List.getElem_cons_zero, List.getElem_cons_succ, Act.put, List.setIfInBounds_toArray, List.set_cons_zero, List.set_cons_succ]
 clear hS
 have hI := HI4.out.drew
 clear HI4
 refine rg_one 8 (by kernel_rfl) (rs_of rfl rfl (wp_call rfl enters_do rfl (HD1.out _ B (Lib.hid hI.er)) (fun w3 hw3 => ⟨⟨(hI.ste hw3).ra, (hI.ste hw3).rb⟩, ?_⟩)))
 have hI5 := hI.ste hw3
 clear hI hw3
 simp only [List.getElem_toArray, List.getElem_cons_zero, List.getElem_cons_succ, Act.put, List.setIfInBounds_toArray, List.set_cons_zero, List.set_cons_succ]
 refine rg_one 16 (by kernel_rfl) (rs_of rfl rfl (wp_call rfl enters_do rfl (HD2.out _ B (Lib.hid hI5.er)) (fun w4 hw4 => ⟨⟨(hI5.ste hw4).ra, (hI5.ste hw4).rb⟩, ?_⟩)))
 have hI6 := hI5.ste hw4
 clear hI5 hw4
 simp only [List.getElem_toArray, List.getElem_cons_zero, List.getElem_cons_succ, Act.put, List.setIfInBounds_toArray, List.set_cons_zero, List.set_cons_succ]
 refine rg_one 17 (by kernel_rfl) (rs_of rfl rfl (wp_call rfl enters_ratio rfl (HR.out _ B (Lib.hid hI6.er)) (fun w5 hw5 => ⟨⟨(hI6.below hw5).ra, (hI6.below hw5).rb⟩, ?_⟩)))
 have hI := hI6.below hw5
 have hS := And.intro hI.ra hI.rb
 clear hI6 hw5
 simp only [List.getElem_toArray, List.getElem_cons_zero, List.getElem_cons_succ, Act.put, List.setIfInBounds_toArray, List.set_cons_zero, List.set_cons_succ]
 refine rg_take 18 (ratV z5 q5 false p5) rfl (by kernel_rfl) (by kernel_rfl) (by kernel_rfl) (fun _ _ _ h => h) rfl (fun w _ => ?_) hS ?_
 ·go_simp
 simp only [List.getElem_toArray, List.getElem_cons_zero, List.getElem_cons_succ, Act.put, List.setIfInBounds_toArray, List.set_cons_zero, List.set_cons_succ]
 refine rg_take 19 (v5) rfl (by kernel_rfl) (by kernel_rfl) (by kernel_rfl) (fun _ _ _ h => h) rfl (fun w _ => ?_) hS ?_
 ·go_simp
 simp only [List.getElem_toArray, List.getElem_cons_zero, List.getElem_cons_succ, Act.put, List.setIfInBounds_toArray, List.set_cons_zero, List.set_cons_succ]
 have b5 := st18_but w5 (S + 1 + 1) z5 q5 false p5
 have hS2 := And.intro (hS.1.but b5 (by omega)) (hS.2.but b5 (by omega))
 refine rg_one 20 (by kernel_rfl) ?_
 refine rs_of rfl rfl ?_
 refine stores_rat (.tmp 4) (.tmp 28) rfl (b := S + 1 + 1) (s := z5) (n := q5) (t := false) (d := p5) rfl rfl hI.rz ⟨hS2, ?_⟩
 clear hS
 have hS := hS2
 simp only [List.getElem_toArray, List.getElem_cons_zero, List.getElem_cons_succ, Act.put, List.setIfInBounds_toArray, List.set_cons_zero, List.set_cons_succ]
 refine rg_take 21 (v5) rfl (by kernel_rfl) (by kernel_rfl) (by kernel_rfl) (fun _ _ _ h => h) rfl (fun w _ => ?_) hS ?_
 ·go_simp
 simp only [List.getElem_toArray, List.getElem_cons_zero, List.getElem_cons_succ, Act.put, List.setIfInBounds_toArray, List.set_cons_zero, List.set_cons_succ]
 refine wpAnyH_done (by kernel_rfl) ?_ _
 go_wp2_with fail
 refine bodyPost_ret (v := .tuple #[ratV z5 q5 false p5, v5]) (results_rat rfl rfl rfl (st18_at hI.rz)) rfl ⟨rfl, ?_⟩
 exact b5.2.1 S w (by omega) hI.bl
end Go.Proofs.YtgoemhcngmpfbaaGreatDoor
