/-
  Stage 8: 'ratio' of a pair: its error, or the numbers in lowest terms.
-/
import Derived.Test.YtgoemhcngmpfbaaGreatDoorMv13
import Derived.Test.YtgoemhcngmpfbaaGreatDoorMv08
import Derived.Test.YtgoemhcngmpfbaaGreatDoorMv01
import Derived.Lib.ItoaMem
import Derived.Lib.AppendIntMem
import Derived.Test.YtgoemhcngmpfbaaGreatDoorRows
import Derived.Test.YtgoemhcngmpfbaaGreatDoorMv09
import Derived.Test.YtgoemhcngmpfbaaGreatDoorMv02
import Derived.Lib.Bytes
import Derived.ProofKit
import Derived.LaidMore
import Derived.OpenShut
import Derived.Stop.Joined
import Derived.ChangeOld
import Derived.Lib.LaidTab
import Derived.Deep.Slices
import Derived.Test.YtgoemhcngmpfbaaGreatDoorMv00
import Derived.Lib.ItoaNum
import Derived.Lib.Repeat
namespace Go.Proofs.YtgoemhcngmpfbaaGreatDoor
open Go.RowKit Go.Sort
set_option linter.unusedSimpArgs false
def mkS (s : Bool) (n : Nat) (t : Bool) (m : Nat) : Bool := if m = 0 then false else sgn (s != t) (n / Nat.gcd n m)
def mkN (n m : Nat) : Nat := if m = 0 then 0 else n / Nat.gcd n m
def mkD (n m : Nat) : Nat := if m = 0 then 0 else m / Nat.gcd n m
def mkK (m : Nat) : Nat := if m = 0 then 10 else 0
theorem makeV_eq (s : Bool) (n : Nat) (t : Bool) (m : Nat) : makeV s n t m = .tuple #[ratV (mkS s n t m) (mkN n m) false (mkD n m), errV (mkK m)] := by
 unfold makeV mkS mkN mkD mkK
 by_cases h : m = 0
 ·rw [if_pos h, if_pos h, if_pos h, if_pos h, if_pos h]
 ·rw [if_neg h, if_neg h, if_neg h, if_neg h, if_neg h]; rfl
theorem Make_run (s : Bool) (n : Nat) (t : Bool) (m : Nat) (w : World) (hn : Hid (Fits n)) (hm : Hid (Fits m)) :
  Calls Tryz.prog 9 #[intV s n, intV t m] w fun e w' => e = .returned (.tuple #[ratV (mkS s n t m) (mkN n m) false (mkD n m), errV (mkK m)]) ∧ Below w.heap.size w w' := by
 rw [← makeV_eq]
 rcases Nat.eq_zero_or_pos m with h | h
 ·subst h; exact Make_zero s n t w
 ·exact Make_pos s n t m w hn hm h
def rtS (k : Nat) (s : Bool) (n : Nat) (t : Bool) (m : Nat) : Bool := if k = 0 then mkS s n t m else false
def rtN (k n m : Nat) : Nat := if k = 0 then mkN n m else 0
def rtD (k n m : Nat) : Nat := if k = 0 then mkD n m else 0
def rtK (k m : Nat) : Nat := if k = 0 then mkK m else k
set_option maxRecDepth 100000 in
set_option maxHeartbeats 2000000 in
theorem ratio_run (B k : Nat) (s : Bool) (n : Nat) (t : Bool) (m : Nat) (w : World) (h : Hid (ErrAt w B k)) (hn : Hid (Fits n)) (hm : Hid (Fits m)) :
  Calls Tryz.prog 91 #[.pointer (some ⟨B, 0, none⟩), intV s n, intV t m] w fun e w' => e = .returned (.tuple #[ratV (rtS k s n t m) (rtN k n m) false (rtD k n m), errV (rtK k m)]) ∧ Below w.heap.size w w' := by
 obtain ⟨S, hS⟩ : ∃ S, w.heap.size = S := ⟨_, rfl⟩
 obtain ⟨W, hW⟩ : ∃ W, ((w.alloc (boxI s n 25)).alloc (boxI t m 25)).alloc (boxRZ 27) = W := ⟨_, rfl⟩
 have T := make_boxes w s n t m 25 25 27
 rw [hW] at T
 have HE := Lib.hid (h.out.below T.2.2.2.1)
 rw [hS] at T ⊢
 have hB : B < S := hS ▸ h.out.lt
 have HT := Lib.hid T
 have hWs : W.heap.size = S + 1 + 1 + 1 := T.2.2.2.2
 clear T h
 by_cases hk : k = 0
 ·subst hk
  have HM := Lib.hid (fun W => Make_run s n t m W hn hm)
  have e1 : rtS 0 s n t m = mkS s n t m := rfl
  have e2 : rtN 0 n m = mkN n m := rfl
  have e3 : rtD 0 n m = mkD n m := rfl
  have e4 : rtK 0 m = mkK m := rfl
  rw [e1, e2, e3, e4]
  clear e1 e2 e3 e4 hn hm
  generalize mkS s n t m = z at *
  generalize mkN n m = q at *
  generalize mkD n m = p at *
  have hv := errV_one (mkK m)
  generalize errV (mkK m) = v at *
  have HF := Lib.hid (failed_zero B W HE)
  have HWs := Lib.hid hWs
  clear hWs HE hB
  go_enter Tryz.func91, Tryz.ntmps91
  go_wp2_with (first | (refine wpList_box_int rfl (.tmp 1) rfl rfl ?_) | (refine wpList_box_int rfl (.tmp 2) rfl rfl ?_))
  refine HF.out.mono ?_
  rintro e w1 ⟨rfl, rfl⟩
  go_wp2_with (first | (refine wpList_load_int rfl (.tmp 4) rfl rfl HT.out.1.o ?_) | (refine wpList_load_int rfl (.tmp 5) rfl rfl HT.out.2.1.o ?_))
  refine (HM.out _).mono ?_
  rintro e w2 ⟨rfl, hw2⟩
  have R3 := Lib.hid (HT.out.2.2.1.keep hw2 (by rw [HWs.out]; omega))
  have B3 := Lib.hid (HT.out.2.2.2.1.trans (hw2.mono (by rw [HWs.out]; omega)))
  clear hw2 HT HF HM hW
  go_wp2_with (refine wpList_store_rat rfl (.tmp 6) (.tmp 21) rfl (s := z) (n := q) (t := false) (d := p) rfl rfl R3.out ?_)
  refine bodyPost_ret (v := .tuple #[ratV z q false p, v]) (results_rat rfl rfl rfl (st18_at R3.out)) rfl ⟨rfl, ?_⟩
  exact (st18_but w2 (S + 1 + 1) z q false p).2.1 S w (by omega) B3.out
 ·have e1 : rtS k s n t m = false := if_neg hk
  have e2 : rtN k n m = 0 := if_neg hk
  have e3 : rtD k n m = 0 := if_neg hk
  have e4 : rtK k m = k := if_neg hk
  rw [e1, e2, e3, e4]
  have HF := Lib.hid (failed_pos B k hk W HE)
  clear hWs e1 e2 e3 e4 hk hn hm
  go_enter Tryz.func91, Tryz.ntmps91
  go_wp2_with (first | (refine wpList_box_int rfl (.tmp 1) rfl rfl ?_) | (refine wpList_box_int rfl (.tmp 2) rfl rfl ?_))
  refine HF.out.mono ?_
  rintro e w1 ⟨rfl, rfl⟩
  go_wp2_with fail
  have bb := st18_but W.drew (S + 1 + 1) false 0 false 0
  refine rg_begin (fun W' => ErrAt W' B k) (by kernel_rfl) HE.out.drew (fun hS => ?_)
  refine rg_take 0 (ratV false 0 false 0) rfl (by kernel_rfl) (by kernel_rfl) (by kernel_rfl) (fun _ _ _ h => h) rfl (fun w _ => ?_) hS ?_
  ·rw [ratV_zero]; go_simp
  simp only [List.getElem_toArray, List.getElem_cons_zero, List.getElem_cons_succ, Act.put, List.setIfInBounds_toArray, List.set_cons_zero, List.set_cons_succ]
  refine rg_take 1 (.pointer (some ⟨B, 0, none⟩)) rfl (by kernel_rfl) (by kernel_rfl) (by kernel_rfl) (fun _ _ _ h => h) rfl (fun w _ => ?_) hS ?_
  ·go_simp
  simp only [List.getElem_toArray, List.getElem_cons_zero, List.getElem_cons_succ, Act.put, List.setIfInBounds_toArray, List.set_cons_zero, List.set_cons_succ]
  refine rg_take 2 (.pointer (some ⟨B, 0, none⟩)) rfl (by kernel_rfl) (by kernel_rfl) (by kernel_rfl) (fun _ _ _ h => h) rfl (fun w _ => ?_) hS ?_
  ·go_simp
  simp only [List.getElem_toArray, List.getElem_cons_zero, List.getElem_cons_succ, Act.put, List.setIfInBounds_toArray, List.set_cons_zero, List.set_cons_succ]
  refine rg_take 3 (.pointer (some ⟨B, 0, none⟩)) rfl (by kernel_rfl) (by kernel_rfl) (by kernel_rfl) (fun _ _ _ h => h) rfl (fun w _ => ?_) hS ?_
  ·go_simp
  simp only [List.getElem_toArray, List.getElem_cons_zero, List.getElem_cons_succ, Act.put, List.setIfInBounds_toArray, List.set_cons_zero, List.set_cons_succ]
  refine rg_take 4 (.pointer (some ⟨B, 0, none⟩)) rfl (by kernel_rfl) (by kernel_rfl) (by kernel_rfl) (fun _ _ _ h => h) rfl (fun w _ => ?_) hS ?_
  ·go_simp
  simp only [List.getElem_toArray, List.getElem_cons_zero, List.getElem_cons_succ, Act.put, List.setIfInBounds_toArray, List.set_cons_zero, List.set_cons_succ]
  refine rg_take 5 (errV k) rfl (by kernel_rfl) (by kernel_rfl) (by kernel_rfl) (fun _ _ _ h => h) rfl (fun w hSw => ?_) hS ?_
  ·have e0 : w.cell? ⟨B, 0, none⟩ = some (errV k) := hSw.cell
   go_simp
  simp only [List.getElem_toArray, List.getElem_cons_zero, List.getElem_cons_succ, Act.put, List.setIfInBounds_toArray, List.set_cons_zero, List.set_cons_succ]
  refine rg_one 6 (by kernel_rfl) (rs_of rfl rfl (stores_rat (.tmp 6) (.tmp 12) rfl (b := S + 1 + 1) (s := false) (n := 0) (t := false) (d := 0) rfl rfl HT.out.2.2.1.drew ⟨hS.but1 bb (by omega), ?_⟩))
  have hS := hS.but1 bb (by omega)
  simp only [List.getElem_toArray, List.getElem_cons_zero, List.getElem_cons_succ, Act.put, List.setIfInBounds_toArray, List.set_cons_zero, List.set_cons_succ]
  refine rg_take 7 (errV k) rfl (by kernel_rfl) (by kernel_rfl) (by kernel_rfl) (fun _ _ _ h => h) rfl (fun w _ => ?_) hS ?_
  ·go_simp
  simp only [List.getElem_toArray, List.getElem_cons_zero, List.getElem_cons_succ, Act.put, List.setIfInBounds_toArray, List.set_cons_zero, List.set_cons_succ]
  refine wpAnyH_done (by kernel_rfl) ?_ _
  go_wp2_with fail
  refine bodyPost_ret (v := .tuple #[ratV false 0 false 0, errV k]) (results_rat rfl rfl rfl (st18_at HT.out.2.2.1.drew)) rfl ⟨rfl, ?_⟩
  exact bb.2.1 S w (by omega) HT.out.2.2.2.1.drew
end Go.Proofs.YtgoemhcngmpfbaaGreatDoor
namespace Go.Proofs.YtgoemhcngmpfbaaGreatDoor
open Go.RowKit Go.Sort
set_option linter.unusedSimpArgs false
def opV (k : Nat) (z : Bool) (r j : Nat) (z' : Bool) (r' j' : Nat) : Value :=
 .tuple #[ratV (rtS (kept (kept k j) j') (doS k z) (doN k r) (doS (kept k j) z') (doN (kept k j) r')) (rtN (kept (kept k j) j') (doN k r) (doN (kept k j) r')) false (rtD (kept (kept k j) j') (doN k r) (doN (kept k j) r')), errV (rtK (kept (kept k j) j') (doN (kept k j) r'))]
theorem enters_ratio : EntersP Tryz.prog 91 := entersP_of Tryz.func91 (by kernel_rfl) rfl
structure OpInv (w W : World) (S B k : Nat) (s : Bool) (n : Nat) (t : Bool) (d : Nat) (s' : Bool) (n' : Nat) (t' : Bool) (d' : Nat) : Prop where
 ra : RatAt W S s n t d
 rb : RatAt W (S + 1) s' n' t' d'
 rz : RatAt W (S + 1 + 1) false 0 false 0
 er : ErrAt W B k
 bl : Below S w W
 hB : S + 1 + 1 < B
 sz : B < W.heap.size
theorem OpInv.ste {w W V : World} {S B k j n d n' d' : Nat} {s t s' t' : Bool} (h : OpInv w W S B k s n t d s' n' t' d') (g : Ste W V B j) : OpInv w V S B j s n t d s' n' t' d' :=
 have h1 := h.hB; have h2 := h.sz
 ⟨h.ra.ste g (by omega) (by omega), h.rb.ste g (by omega) (by omega), h.rz.ste g (by omega) (by omega), g.err, g.below S w (by omega) (by omega) h.bl, h1, Nat.lt_of_lt_of_le h2 g.size⟩
theorem OpInv.below {w W V : World} {S B k n d n' d' : Nat} {s t s' t' : Bool} (h : OpInv w W S B k s n t d s' n' t' d') (g : Below W.heap.size W V) : OpInv w V S B k s n t d s' n' t' d' :=
 have h1 := h.hB; have h2 := h.sz
 ⟨h.ra.keep g (by omega), h.rb.keep g (by omega), h.rz.keep g (by omega), h.er.below g, h.bl.trans (g.mono (by omega)), h1, Nat.lt_of_lt_of_le h2 g.size⟩
theorem OpInv.drew {w W : World} {S B k n d n' d' : Nat} {s t s' t' : Bool} (h : OpInv w W S B k s n t d s' n' t' d') : OpInv w W.drew S B k s n t d s' n' t' d' := ⟨h.ra.drew, h.rb.drew, h.rz.drew, h.er.drew, h.bl.drew, h.hB, h.sz⟩
theorem OpInv.but {w W V : World} {S B k c n d n' d' : Nat} {s t s' t' : Bool} (h : OpInv w W S B k s n t d s' n' t' d') (g : But1 W V c) (hc : B < c) : OpInv w V S B k s n t d s' n' t' d' :=
 have h1 := h.hB; have h2 := h.sz
 ⟨h.ra.but g (by omega), h.rb.but g (by omega), h.rz.but g (by omega), h.er.but1 g (by omega), g.2.1 S w (by omega) h.bl, h1, by rw [g.2.2]; exact h2⟩
theorem op_boxes (w : World) (s : Bool) (n : Nat) (t : Bool) (d : Nat) (s' : Bool) (n' : Nat) (t' : Bool) (d' : Nat) (T : TypeId) : RatAt (((w.alloc (boxR s n t d T)).alloc (boxR s' n' t' d' T)).alloc (boxRZ T)) w.heap.size s n t d ∧ RatAt (((w.alloc (boxR s n t d T)).alloc (boxR s' n' t' d' T)).alloc (boxRZ T)) (w.heap.size + 1) s' n' t' d' ∧ RatAt (((w.alloc (boxR s n t d T)).alloc (boxR s' n' t' d' T)).alloc (boxRZ T)) (w.heap.size + 1 + 1) false 0 false 0 ∧ Below w.heap.size w (((w.alloc (boxR s n t d T)).alloc (boxR s' n' t' d' T)).alloc (boxRZ T)) ∧ (((w.alloc (boxR s n t d T)).alloc (boxR s' n' t' d' T)).alloc (boxRZ T)).heap.size = w.heap.size + 1 + 1 + 1 := by
 have z1 : (w.alloc (boxR s n t d T)).heap.size = w.heap.size + 1 := by simp
 have z2 : ((w.alloc (boxR s n t d T)).alloc (boxR s' n' t' d' T)).heap.size = w.heap.size + 1 + 1 := by simp
 have r2 := RatAt.new (w.alloc (boxR s n t d T)) s' n' t' d' T
 have r3 := RatAt.zero ((w.alloc (boxR s n t d T)).alloc (boxR s' n' t' d' T)) T
 rw [z1] at r2
 rw [z2] at r3
 exact ⟨((RatAt.new w s n t d T).alloc (by simp) _).alloc (by omega) _, r2.alloc (by omega) _, r3, ((below_alloc w _).alloc (by simp) _).alloc (by omega) _, by simp⟩
end Go.Proofs.YtgoemhcngmpfbaaGreatDoor
namespace Go.Proofs.YtgoemhcngmpfbaaGreatDoor
open Go.RowKit Go.Sort
set_option linter.unusedSimpArgs false
theorem vld_spec {s : Bool} {n : Nat} {t : Bool} {d : Nat} (h : vld s n t d = true) : sgn s n = s ∧ t = false ∧ 0 < d ∧ Nat.gcd n d = 1 := by
 unfold vld at h
 simp only [Bool.and_eq_true, beq_iff_eq, decide_eq_true_eq, Bool.not_eq_true'] at h
 exact ⟨h.1.1.1, h.1.1.2, h.1.2, h.2⟩
set_option maxRecDepth 100000 in
set_option maxHeartbeats 4000000 in
theorem ROf_run (z : Int) (w : World) (h1 : -9223372036854775808 ≤ z) (h2 : z < 9223372036854775808) :
  Calls Tryz.prog 113 #[.int .i64 z] w fun e w' => e = .returned (ratV (decide (z < 0)) z.natAbs false 1) ∧ Below w.heap.size w w' := by
 have HO1 := Lib.hid (fun W => Of_run z W h1 h2)
 have HO2 := Lib.hid (fun W => Of_run 1 W (by decide) (by decide))
 have hO : intV (decide ((1 : Int) < 0)) (1 : Int).natAbs = intV false 1 := rfl
 rw [hO] at HO2
 obtain ⟨S, hS⟩ : ∃ S, w.heap.size = S := ⟨_, rfl⟩
 have T1 := RatAt.zero w 27
 have T2 := below_alloc w (boxRZ 27)
 have T3 : (w.alloc (boxRZ 27)).heap.size = w.heap.size + 1 := by simp
 obtain ⟨W, hW⟩ : ∃ W, w.alloc (boxRZ 27) = W := ⟨_, rfl⟩
 rw [hW] at T1 T2 T3
 rw [hS] at T1 T2 T3 ⊢
 have HT1 := Lib.hid T1
 have HT2 := Lib.hid T2
 have hz := Lib.hid T3
 generalize decide (z < 0) = s at *
 generalize hn : z.natAbs = n at *
 clear T1 T2 T3 hO h1 h2 hn
 go_enter Tryz.func113, Tryz.ntmps113
 go_wp2_with fail
 refine (HO1.out _).mono ?_
 rintro e w1 ⟨rfl, hw1⟩
 have hzz := hz.out
 have H1 := Lib.hid (HT1.out.keep hw1 (by omega))
 have HB := Lib.hid (HT2.out.trans (hw1.mono (by omega)))
 have hs1 : S + 1 ≤ w1.heap.size := Nat.le_trans (Nat.le_of_eq hzz.symm) hw1.size
 clear hw1 HT1 HT2 hW hz hzz HO1
 go_wp2_with fail
 refine (HO2.out _).mono ?_
 rintro e w2 ⟨rfl, hw2⟩
 have H2 := Lib.hid (H1.out.keep hw2 (by omega))
 have HB2 := Lib.hid (HB.out.trans (hw2.mono (by omega)))
 clear hw2 H1 HB HO2
 go_wp2_with (first | (refine wpList_build_rat rfl (.tmp 4) (.tmp 5) rfl (s := s) (n := n) (t := false) (d := 1) rfl rfl ?_) | (refine wpList_store_rat rfl (.tmp 2) (.tmp 6) rfl (b := S) (s := s) (n := n) (t := false) (d := 1) rfl rfl H2.out ?_))
 refine bodyPost_ret (v := ratV s n false 1) (results_rat1 rfl rfl (st18_at H2.out)) rfl ⟨rfl, ?_⟩
 exact (st18_but w2 S s n false 1).2.1 S w (by omega) HB2.out
end Go.Proofs.YtgoemhcngmpfbaaGreatDoor
namespace Go.Proofs.YtgoemhcngmpfbaaGreatDoor
open Go.RowKit Go.Sort
set_option linter.unusedSimpArgs false
theorem eqg_int (op : BinOp) (x y : Operand) (s : Bool) (n : Nat) (t : Bool) (m : Nat) (w : World) : (eqGuard op 25 x y (intV s n) (intV t m)).run Tryz.prog w = .ok () w := by
 unfold intV
 exact run_eqGuard_agg (P := Tryz.prog) w op 25 x y _ _ (by kernel_rfl)
theorem wordsV_small {k : Nat} (h : k < 18446744073709551616) : wordsV k = .agg #[.int .u64 (k : Int), .int .u64 0, .int .u64 0, .int .u64 0, .int .u64 0, .int .u64 0, .int .u64 0, .int .u64 0] := by
 obtain ⟨h0, h1, h2, h3, h4, h5, h6, h7⟩ := wd_small' h
 simp only [wordsV, h0, h1, h2, h3, h4, h5, h6, h7, Int.natCast_zero]
def decS (n : Nat) : ByteArray := ⟨(Lib.decDigits n).toArray⟩
set_option maxHeartbeats 2000000 in
theorem formatI_small (n : Nat) (hn : n < 100) (w : World) :
  Calls Tryz.prog 143 #[.int .u64 (n : Int), .int .i64 10] w fun e w' => e = .returned (.string (decS n)) ∧ w = w' := by
 have HS := Lib.hid (fun W => Tryz.internal_strconv_small n hn W)
 have h1 : (n : Int) < 100 := by omega
 have h2 : IntKind.i64.wrap (n : Int) = (n : Int) := by rw [IntKind.wrap_i64]; omega
 go_enter Tryz.func143, Tryz.ntmps143
 go_wp2_with fail
 refine (HS.out _).mono ?_
 rintro e w1 ⟨rfl, rfl⟩
 go_wp2_with fail
 go_ret
 exact ⟨rfl, rfl⟩
theorem empty_right (s : ByteArray) : s ++ (⟨#[]⟩ : ByteArray) = s := by
 apply ByteArray.ext
 simp [ByteArray.data_append]
end Go.Proofs.YtgoemhcngmpfbaaGreatDoor
namespace Go.Proofs.YtgoemhcngmpfbaaGreatDoor
open Go.RowKit Go.Sort
set_option linter.unusedSimpArgs false
def Tab (w : World) : Prop := Lib.TabIs Tryz.prog w "internal/strconv.uint64pow10" .u64 Lib.pow10Tab
theorem tab_glob : Tryz.prog.globalNamed "internal/strconv.uint64pow10" = some 5 := by kernel_rfl
theorem Tab.below {w w' : World} (h : Tab w) (hb : Below w.heap.size w w') : Tab w' := by
 unfold Tab Lib.TabIs World.var? at h ⊢
 rw [tab_glob] at h ⊢
 simp only [Option.bind_some] at h ⊢
 have hlt : 5 < w.heap.size := by
  rcases Nat.lt_or_ge 5 w.heap.size with h' | h'
  ·exact h'
  ·rw [Array.getElem?_eq_none h'] at h; cases h
 rw [hb.block _ hlt]
 exact h
set_option maxHeartbeats 4000000 in
set_option maxRecDepth 100000 in
theorem formatI_run (u : Nat) (hu64 : u < 18446744073709551616) (w : World) (ht : Hid (Tab w)) :
  Calls Tryz.prog 143 #[.int .u64 (u : Int), .int .i64 10] w fun e w' => e = .returned (.string (decS u)) ∧ Below w.heap.size w w' := by
 by_cases hs : u < 100
 ·exact (formatI_small u hs w).mono fun e w' h => ⟨h.1, by rw [← h.2]; exact Below.refl _ _⟩
 ·have hu1 : 1 ≤ u := by omega
  have hnd20 : Lib.nDigits u ≤ 20 := by have := Lib.numDigits_eq u hu1 hu64; split at this <;> omega
  have hal : Tryz.prog.arrayLen 217 = 24 := by kernel_rfl
  have hsl : ∀ W, (Instr.sliceAt 217 (.pointer (some ⟨w.heap.size, 0, none⟩)) none (some (.int .i64 (Lib.nDigits u : Int))) none).run Tryz.prog W = .ok (.slice (some ⟨w.heap.size, 0, none⟩) (Lib.nDigits u) 24) W := fun W => by
   rw [run_sliceAt_array_h W 217 ⟨w.heap.size, 0, none⟩ (by kernel_rfl) .i64 (Lib.nDigits u : Int) (by omega) (by rw [hal]; omega)]
   go_simp
  have hH0 := Lib.holds_zero0 w 217 (Lib.nDigits u) (by omega)
  have hfmt := Tryz.internal_strconv_formatBase10 w.heap.size 0 24 u (Array.replicate (Lib.nDigits u) 0) (w.alloc (.cells Lib.zeros24 217)) hH0 (by rw [Array.size_replicate]; exact Lib.lt_pow_nDigits u) hu64 (by rw [Array.size_replicate]; omega)
  rw [Array.size_replicate] at hfmt
  have HN := Lib.hid (Tryz.internal_strconv_numDigits u hu1 hu64 (w.alloc (.cells Lib.zeros24 217)) (Lib.tabIs_alloc ht.out _))
  have HF := Lib.hid hfmt
  have HH0 := Lib.hid hH0
  have iu : ¬ ((u : Int) < 100) := by omega
  clear hH0 hal hfmt
  go_enter Tryz.func143, Tryz.ntmps143
  go_wp2_with fail
  refine (HN.out).mono ?_
  rintro e w1 ⟨rfl, rfl⟩
  go_wp2_with fail
  refine (HF.out).mono ?_
  rintro e w2 ⟨rfl, k, v', dk, rfl, hF⟩
  obtain ⟨os, eo⟩ := Lib.fin_at w (.cells Lib.zeros24 217) dk k 0
  have HB : Hid (Below w.heap.size w ((putRow (fun (b : UInt8) => Value.int .u8 (b.toNat : Int)) (w.alloc (.cells Lib.zeros24 217)) w.heap.size 0 dk).drewN k)) := by
   show Below _ _ _
   rw [eo]
   exact Lib.below_grow _ _ (Nat.le_refl _) _ _
  have hcv : (convert 48 9 (.slice (some ⟨w.heap.size, 0, none⟩) (Lib.nDigits u) 24)).run Tryz.prog ((putRow (fun (b : UInt8) => Value.int .u8 (b.toNat : Int)) (w.alloc (.cells Lib.zeros24 217)) w.heap.size 0 dk).drewN k) = .ok (.string (decS u)) ((putRow (fun (b : UInt8) => Value.int .u8 (b.toNat : Int)) (w.alloc (.cells Lib.zeros24 217)) w.heap.size 0 dk).drewN k) := by
   have h := run_convert_bytes_back (P := Tryz.prog) ((putRow (fun (b : UInt8) => Value.int .u8 (b.toNat : Int)) (w.alloc (.cells Lib.zeros24 217)) w.heap.size 0 dk).drewN k) 48 9 5 ⟨w.heap.size, 0, none⟩ 24 (Lib.decDigits u) Tryz.underlying48 Tryz.underlying5 Tryz.underlying9 (fun j hj => by
    rw [Lib.row_is_numeral hF j hj, Lib.add_plain, World.cell?_drewN]
    exact cell?_putRow (fun (b : UInt8) => Value.int .u8 (b.toNat : Int)) _ w.heap.size 0 _ dk HH0.out (by rw [hF.size, Array.size_replicate]) j (by rw [hF.size]; rw [Lib.decDigits_length] at hj; exact hj))
   rw [Lib.decDigits_length] at h
   exact h
  generalize (putRow (fun (b : UInt8) => Value.int .u8 (b.toNat : Int)) (w.alloc (.cells Lib.zeros24 217)) w.heap.size 0 dk).drewN k = w2 at *
  clear eo hF HH0 HN HF
  go_wp2_with fail
  go_ret
  exact ⟨rfl, HB.out⟩
set_option maxHeartbeats 2000000 in
theorem format_run (u : Nat) (hu64 : u < 18446744073709551616) (w : World) (ht : Hid (Tab w)) :
  Calls Tryz.prog 116 #[.int .u64 (u : Int), .int .i64 10] w fun e w' => e = .returned (.string (decS u)) ∧ Below w.heap.size w w' := by
 have HS := Lib.hid (formatI_run u hu64 w ht)
 go_enter Tryz.func116, Tryz.ntmps116
 go_wp2_with fail
 refine (HS.out).mono ?_
 rintro e w1 ⟨rfl, hw1⟩
 have HB := Lib.hid hw1
 clear hw1
 go_wp2_with fail
 go_ret
 exact ⟨rfl, HB.out⟩
end Go.Proofs.YtgoemhcngmpfbaaGreatDoor
namespace Go.Proofs.YtgoemhcngmpfbaaGreatDoor
open Go.ChangeShapes Go.WideShapes Go.ChangeAt Go.RowKit Go.Deep
theorem laidMet_tl {P : Program} {W : World} {x : String × DataW Unit} {rest : List (String × DataW Unit)} (h : laidMet P (x :: rest) W) : laidMet P rest W := by
 obtain ⟨ps, ⟨g', t', cs, fuel, p, q, hg', ht', hvar, hd, hr, rfl⟩, hnd, hall⟩ := h
 exact ⟨q, hr, (List.nodup_append.1 hnd).2.1, fun b off hm => hall b off (List.mem_append_right _ hm)⟩
theorem tPow : (Tryz.prog.globals[5]?).map (·.type) = some 231 := by kernel_rfl
theorem pow_list : Lib.pow10Tab = [1, 10, 100, 1000, 10000, 100000, 1000000, 10000000, 100000000, 1000000000, 10000000000, 100000000000, 1000000000000, 10000000000000, 100000000000000, 1000000000000000, 10000000000000000, 100000000000000000, 1000000000000000000, 10000000000000000000] := by decide +kernel
theorem tab_of {W : World} {rest : List (String × DataW Unit)} (h : laidMet Tryz.prog (("internal/strconv.uint64pow10", Rows.laid_internal_strconv_uint64pow10) :: rest) W) : Tab W := by
 have h' : laidMet Tryz.prog (("internal/strconv.uint64pow10", Lib.tabData .u64 Lib.pow10Tab) :: rest) W := by
  rw [pow_list]
  exact h
 exact Lib.tabIs_of_head tab_glob tPow Tryz.underlying231 Tryz.underlying22 (by kernel_rfl) (by kernel_rfl) h'
section
variable {H : Type} {enc : TypeId × Value → H} {W : World} {sp : Nat → Bool}
set_option maxRecDepth 20000 in
theorem open_numV {b0 : Nat} {v : Value} {d : DataW H} {p : List MemPlace} (hv : Value.okWide Tryz.prog W .any b0 25 v) (h : DataW.Trod enc Tryz.prog W 0 sp true 25 v d p) :
  ∃ (s : Bool) (n : Nat), v = intV s n ∧ Fits n := by
 have hu : Tryz.prog.underlying 25 = some (.struct (Tryz.prog.fieldsOf 25)) := by kernel_rfl
 obtain ⟨cs, rfl, hsz⟩ := okWide_struct hu hv
 obtain ⟨fuel, hf⟩ := h
 obtain ⟨s, n, hn, e⟩ := open_num hf
 refine ⟨s, n, ?_, hn⟩
 have e2 : cs = #[.bool s, .int .u64 (wd n 0 : Int), .int .u64 (wd n 1 : Int), .int .u64 (wd n 2 : Int), .int .u64 (wd n 3 : Int), .int .u64 (wd n 4 : Int), .int .u64 (wd n 5 : Int), .int .u64 (wd n 6 : Int), .int .u64 (wd n 7 : Int)] := Array.toList_inj.1 e
 rw [e2]
 rfl
end
end Go.Proofs.YtgoemhcngmpfbaaGreatDoor
namespace Go.Proofs.YtgoemhcngmpfbaaGreatDoor
open Go.RowKit
def EncOk {α : Type} (f : α → List Value) (size : Nat) : Prop := 0 < size ∧ ∀ a, (f a).length = size ∧ ∀ u ∈ f a, u.oneCell' = true
theorem flat_get {α : Type} {f : α → List Value} {size : Nat} (h : EncOk f size) : ∀ {l : List α} {i j : Nat} {x : α} {u : Value}, l[i]? = some x → (f x)[j]? = some u → (l.flatMap f)[i * size + j]? = some u
 | [], i, j, x, u, hx, _ => by simp at hx
 | a :: l, 0, j, x, u, hx, hu => by
  simp at hx
  subst hx
  have hj : j < (f a).length := (List.getElem?_eq_some_iff.1 hu).1
  rw [List.flatMap_cons, Nat.zero_mul, Nat.zero_add, List.getElem?_append_left hj]
  exact hu
 | a :: l, i + 1, j, x, u, hx, hu => by
  have ih := flat_get h (l := l) (i := i) (j := j) (by simpa using hx) hu
  have e : (i + 1) * size + j - (f a).length = i * size + j := by rw [(h.2 a).1, Nat.add_mul]; omega
  rw [List.flatMap_cons, List.getElem?_append_right (by rw [(h.2 a).1, Nat.add_mul]; omega), e]
  exact ih
theorem flat_take {α : Type} {f : α → List Value} {size : Nat} (h : EncOk f size) : ∀ (l : List α) (n : Nat), (l.take n).flatMap f = (l.flatMap f).take (n * size)
 | [], n => by simp
 | a :: l, 0 => by simp
 | a :: l, n + 1 => by
  have h1 : (f a).take ((n + 1) * size) = f a := List.take_of_length_le (by rw [(h.2 a).1, Nat.add_mul]; omega)
  have h2 : (n + 1) * size - size = n * size := by rw [Nat.add_mul]; omega
  rw [List.take_succ_cons, List.flatMap_cons, List.flatMap_cons, flat_take h l n, List.take_append, h1, (h.2 a).1, h2]
def CellsV {α : Type} (f : α → List Value) (w : World) (B : Nat) (A : Option Addr) (l : List α) : Prop :=
 0 < l.length → ∃ b o, A = some ⟨b, o, none⟩ ∧ b < B ∧ ∀ j u, (l.flatMap f)[j]? = some u → w.cell? ⟨b, o + j, none⟩ = some u
section
variable {α : Type} {f : α → List Value} {w w' : World} {B B' : Nat} {A : Option Addr} {l : List α}
theorem CellsV.keep (h : CellsV f w B A l) (hk : ∀ b o, b < B → w'.cell? ⟨b, o, none⟩ = w.cell? ⟨b, o, none⟩) : CellsV f w' B A l :=
 fun hp => by
  obtain ⟨b, o, e, hb, hc⟩ := h hp
  exact ⟨b, o, e, hb, fun j u hu => (hk b (o + j) hb).trans (hc j u hu)⟩
theorem CellsV.below (h : CellsV f w B A l) (hb : Below B' w w') (hB : B ≤ B') : CellsV f w' B A l :=
 h.keep fun _ _ hlt => hb.cell (Nat.lt_of_lt_of_le hlt hB)
theorem CellsV.nil : CellsV f w B A [] := fun h => by simp at h
theorem CellsV.take {size : Nat} (he : EncOk f size) (h : CellsV f w B A l) (n : Nat) : CellsV f w B A (l.take n) :=
 fun hp => by
  obtain ⟨b, o, e, hb, hc⟩ := h (by rw [List.length_take] at hp; omega)
  refine ⟨b, o, e, hb, fun j u hu => hc j u ?_⟩
  rw [flat_take he, List.getElem?_take] at hu
  split at hu
  ·exact hu
  ·cases hu
theorem CellsV.get {size : Nat} (he : EncOk f size) (h : CellsV f w B A l) (hp : 0 < l.length) : ∃ b o, A = some ⟨b, o, none⟩ ∧ b < B ∧ ∀ i x, l[i]? = some x → ∀ j u, (f x)[j]? = some u → w.cell? ⟨b, o + (i * size + j), none⟩ = some u := by
 obtain ⟨b, o, e, hb, hc⟩ := h hp
 exact ⟨b, o, e, hb, fun i x hx j u hu => hc _ u (flat_get he hx hu)⟩
theorem CellsV.grown (h : CellsV f w B A l) {row : Option Nat} (hg : w.grownBy w' row) (hB : B ≤ w.heap.size) (hr : ∀ g, row = some g → B ≤ g) : CellsV f w' B A l :=
 h.keep fun b o hb => World.cell?_of_block (hg.block b (by omega) (fun e => by have := hr _ e.symm; omega))
end
def OwnV {α : Type} (f : α → List Value) (size : Nat) (E : TypeId) (w : World) (base : Nat) (v : Value) (l : List α) : Prop := w.ownsRow base E size v l.length (l.flatMap f)
section
variable {α : Type} {f : α → List Value} {size : Nat} {T E : TypeId} {w w' : World} {base : Nat} {v : Value} {l : List α}
theorem ownV_ge (h : OwnV f size E w base v l) : ∀ g, v.ownBlock = some g → base ≤ g := fun g hg => (World.ownsRow.lt h g hg).1
theorem OwnV.below (h : OwnV f size E w base v l) (hb : Below w.heap.size w w') : OwnV f size E w' base v l :=
 World.ownsRow.kept h (row := none) ⟨hb.os, hb.tape, hb.output, hb.size, fun k hk _ => hb.block k hk⟩ (by cases v.ownBlock <;> simp)
theorem OwnV.alloc (h : OwnV f size E w base v l) (o : Obj) : OwnV f size E (w.alloc o) base v l := World.ownsRow.alloc h o
theorem OwnV.setCell (h : OwnV f size E w base v l) {p : Addr} (hp : p.block < base) (u : Value) : OwnV f size E (w.setCell p u) base v l :=
 ownsRow_setCell_other h (fun e => by have := ownV_ge h _ e; omega) u
theorem OwnV.nil (f : α → List Value) (size : Nat) (E : TypeId) (w : World) (base : Nat) : OwnV f size E w base (.slice none 0 0) ([] : List α) := World.ownsRow_nil _ _ _ _
theorem OwnV.cells (h : OwnV f size E w base v l) : ∃ A cap, v = .slice A l.length cap ∧ l.length ≤ cap ∧ cap ≤ 9223372036854775807 ∧ CellsV f w w.heap.size A l := by
 rcases h.2 with ⟨hv, h0⟩ | ⟨g, cap, cur, hv, _, _, hnc, hcm, _⟩
 ·have : l = [] := List.eq_nil_of_length_eq_zero h0
  subst this
  exact ⟨none, 0, hv, Nat.le_refl _, by omega, CellsV.nil⟩
 ·unfold maxLen at hcm
  refine ⟨_, cap, hv, hnc, hcm, fun _ => ?_⟩
  have hlt := World.ownsRow.lt h g (by rw [hv]; rfl)
  refine ⟨g, 0, rfl, hlt.2, fun i x hx => ?_⟩
  have := World.ownsRow.cells h (g := g) (by rw [hv]; rfl) i x hx
  have hp : (⟨g, 0, none⟩ : Addr).add i = ⟨g, 0 + i, none⟩ := by unfold Addr.add; split <;> simp_all
  rwa [hp] at this
end
end Go.Proofs.YtgoemhcngmpfbaaGreatDoor
namespace Go.Proofs.YtgoemhcngmpfbaaGreatDoor
open Go.RowKit
def U.Byt (l : List Int) : Prop := ∀ x ∈ l, 0 ≤ x ∧ x ≤ 255
def Byts (w : World) (B : Nat) (A : Option Addr) (l : List Int) : Prop :=
 U.Byt l ∧ (0 < l.length → ∃ b o, A = some ⟨b, o, none⟩ ∧ b < B ∧ ∀ i x, l[i]? = some x → w.cell? ⟨b, o + i, none⟩ = some (.int .u8 x))
def strOf (l : List Int) : ByteArray := strOfNums l
theorem Byts.out {w : World} {B : Nat} {A : Option Addr} {l : List Int} (h : Byts w B A l) : U.Byt l := h.1
theorem Byts.keep {w w' : World} {B : Nat} {A : Option Addr} {l : List Int} (h : Byts w B A l) (hk : ∀ b o, b < B → w'.cell? ⟨b, o, none⟩ = w.cell? ⟨b, o, none⟩) : Byts w' B A l :=
 ⟨h.1, fun hp => by
  obtain ⟨b, o, e, hb, hc⟩ := h.2 hp
  exact ⟨b, o, e, hb, fun i x hx => (hk b (o + i) hb).trans (hc i x hx)⟩⟩
theorem Byts.below {w w' : World} {B B' : Nat} {A : Option Addr} {l : List Int} (h : Byts w B A l) (hb : Below B' w w') (hB : B ≤ B') : Byts w' B A l :=
 h.keep fun _ _ hlt => hb.cell (Nat.lt_of_lt_of_le hlt hB)
theorem Byts.nil {w : World} {B : Nat} {A : Option Addr} : Byts w B A [] := ⟨fun x hx => by simp at hx, fun h => by simp at h⟩
theorem Byts.take {w : World} {B : Nat} {A : Option Addr} {l : List Int} (h : Byts w B A l) (n : Nat) : Byts w B A (l.take n) :=
 ⟨fun x hx => h.1 x (List.mem_of_mem_take hx), fun hp => by
  obtain ⟨b, o, e, hb, hc⟩ := h.2 (by rw [List.length_take] at hp; omega)
  exact ⟨b, o, e, hb, fun i x hx => hc i x (by
   rw [List.getElem?_take] at hx
   split at hx
   ·exact hx
   ·cases hx)⟩⟩
theorem Byts.nums {w : World} {B : Nat} {A : Option Addr} {l : List Int} (h : Byts w B A l) : NumsK .u8 w B A l := h.2
theorem conv_bytes {w : World} {B : Nat} {A : Option Addr} {l : List Int} (h : Byts w B A l) (n cap : Nat) (hn : l.length = n) :
  (convert 48 9 (.slice A n cap)).run Tryz.prog w = .ok (.string (strOf l)) w := by
 subst hn
 by_cases hl : 0 < l.length
 ·obtain ⟨b, o, rfl, _, hc⟩ := h.2 hl
  exact run_convert_bytes_arg w _ 5 Tryz.underlying48 Tryz.underlying5 b o l.length cap l rfl (fun i hi => by
   rw [hc i _ (List.getElem?_eq_getElem hi)]
   simp [List.getD, List.getElem?_eq_getElem hi]) _ Tryz.underlying9
 ·have : l = [] := List.eq_nil_of_length_eq_zero (by omega)
  subst this
  cases A with
  | none => exact run_convert_bytes_nil w _ 5 Tryz.underlying48 Tryz.underlying5 _ _ _ Tryz.underlying9
  | some a =>
   have := run_convert_bytes_back w 48 9 5 a cap [] Tryz.underlying48 Tryz.underlying5 Tryz.underlying9 (fun j hj => by simp at hj)
   simpa [strOf, strOfNums] using this
def bts (s : ByteArray) : List Int := s.data.toList.map fun b => (b.toNat : Int)
theorem bts_length (s : ByteArray) : (bts s).length = s.size := by simp [bts]
theorem bts_byt (s : ByteArray) : U.Byt (bts s) := fun x hx => by
 simp only [bts, List.mem_map] at hx
 obtain ⟨b, _, rfl⟩ := hx
 have := b.toNat_lt
 omega
end Go.Proofs.YtgoemhcngmpfbaaGreatDoor
namespace Go.Proofs.YtgoemhcngmpfbaaGreatDoor
open Go.ChangeShapes Go.WideShapes Go.ChangeAt Go.RowKit Go.Deep
theorem u8_bounds {n : Int} (h : (Lit.int .u8 n).wf = true) : 0 ≤ n ∧ n ≤ 255 := by
 simpa [Lit.wf, IntKind.min, IntKind.max, IntKind.signed, IntKind.bits] using h
theorem open_bytes {H : Type} {enc : TypeId × Value → H} {W : World} {fuel : Nat} {cs : List Value} {x : DataW H × List MemPlace} {sp : Nat → Bool} (h : DataW.trod enc Tryz.prog W 0 sp true fuel 48 cs = some x) :
  ∃ A len cap l, cs = [.slice A len cap] ∧ l.length = len ∧ len ≤ cap ∧ cap ≤ 9223372036854775807 ∧ Byts W W.heap.size A l := by
 rcases open_ints Tryz.underlying48 Tryz.underlying5 (by kernel_rfl) h with ⟨hcs, _⟩ | ⟨x, l, c, zs, hcs, _, hl, hm, hz, _, hcell, hwz⟩
 ·exact ⟨none, 0, 0, [], hcs, rfl, Nat.le_refl _, by omega, Byts.nil⟩
 ·unfold maxLen at hm
  have hlz : l ≤ zs.length := by rw [hz]; split <;> omega
  have hlen : (zs.take l).length = l := by rw [List.length_take]; omega
  refine ⟨some x, l, c, zs.take l, hcs, hlen, hl, hm, ⟨fun n hn => bounds_u8 (hwz n (List.mem_of_mem_take hn)), fun hp => ?_⟩⟩
  obtain ⟨b, off, rfl, hc⟩ := ints_at hcell (by omega)
  have h0 := hc 0 (by omega)
  refine ⟨b, off, rfl, ?_, fun i y hy => ?_⟩
  ·rcases Nat.lt_or_ge b W.heap.size with h1 | h1
   ·exact h1
   ·simp [World.cell?, Array.getElem?_eq_none h1] at h0
  ·rw [List.getElem?_take] at hy
   split at hy
   ·have hi := (List.getElem?_eq_some_iff.1 hy).1
    rw [hc i hi]
    simp [List.getD, hy]
   ·cases hy
end Go.Proofs.YtgoemhcngmpfbaaGreatDoor
namespace Go.Proofs.YtgoemhcngmpfbaaGreatDoor
open Go.RowKit
theorem nDigits_le : ∀ (k n : Nat), 1 ≤ k → n < 10 ^ k → Lib.nDigits n ≤ k
 | 0, _, h, _ => by omega
 | 1, n, _, h => by rw [Lib.nDigits_small (by simpa using h)]; exact Nat.le_refl 1
 | k + 2, n, _, h => by
  by_cases hs : n < 10
  ·rw [Lib.nDigits_small hs]; omega
  ·rw [Lib.nDigits_big hs]
   have := nDigits_le (k + 1) (n / 10) (by omega) (by rw [Nat.pow_succ] at h; exact Nat.div_lt_of_lt_mul (by rw [Nat.mul_comm]; exact h))
   omega
theorem decDigits_le {k n : Nat} (hk : 1 ≤ k) (h : n < 10 ^ k) : (Lib.decDigits n).length ≤ k := by rw [Lib.decDigits_length]; exact nDigits_le k n hk h
theorem decDigits_small {n : Nat} (h : n < 10) : Lib.decDigits n = [UInt8.ofNat (48 + n)] := Lib.decDigits_one h
theorem decDigits_big {n : Nat} (h : ¬ n < 10) : Lib.decDigits n = Lib.decDigits (n / 10) ++ [UInt8.ofNat (48 + n % 10)] := by
 rw [Lib.decDigits, dif_neg h]
def pad (k r : Nat) : List UInt8 := List.replicate (k - (Lib.decDigits r).length) 48 ++ Lib.decDigits r
theorem pad_one {r : Nat} (h : r < 10) : pad 1 r = [UInt8.ofNat (48 + r)] := by
 unfold pad
 rw [decDigits_small h]
 rfl
theorem pad_succ {k r : Nat} (hk : 1 ≤ k) : pad (k + 1) r = pad k (r / 10) ++ [UInt8.ofNat (48 + r % 10)] := by
 unfold pad
 by_cases h : r < 10
 ·have h1 : r / 10 = 0 := Nat.div_eq_of_lt h
  have h2 : r % 10 = r := Nat.mod_eq_of_lt h
  rw [h1, h2, decDigits_small h, decDigits_small (show 0 < 10 by omega)]
  obtain ⟨j, rfl⟩ : ∃ j, k = j + 1 := ⟨k - 1, by omega⟩
  show List.replicate (j + 1 + 1 - 1) 48 ++ [_] = (List.replicate (j + 1 - 1) 48 ++ [UInt8.ofNat (48 + 0)]) ++ [_]
  have h3 : (UInt8.ofNat (48 + 0)) = 48 := rfl
  rw [h3, show j + 1 + 1 - 1 = j + 1 by omega, show j + 1 - 1 = j by omega, List.replicate_succ']
 ·rw [decDigits_big h, List.length_append, List.append_assoc]
  have : k + 1 - ((Lib.decDigits (r / 10)).length + [UInt8.ofNat (48 + r % 10)].length) = k - (Lib.decDigits (r / 10)).length := by
   show k + 1 - (_ + 1) = _
   omega
  rw [this]
theorem dec_pieces : ∀ (k q r : Nat), 1 ≤ k → 1 ≤ q → r < 10 ^ k → Lib.decDigits (q * 10 ^ k + r) = Lib.decDigits q ++ pad k r
 | 0, _, _, h, _, _ => by omega
 | 1, q, r, _, hq, hr => by
  have hr : r < 10 := by simpa using hr
  rw [decDigits_big (by rw [Nat.pow_one]; omega), pad_one hr, Nat.pow_one]
  have h1 : (q * 10 + r) / 10 = q := by omega
  have h2 : (q * 10 + r) % 10 = r := by omega
  rw [h1, h2]
 | k + 2, q, r, _, hq, hr => by
  have hb : q * 10 ^ (k + 2) + r = (q * 10 ^ (k + 1)) * 10 + r := by rw [Nat.pow_succ, ← Nat.mul_assoc]
  have hp : 1 ≤ 10 ^ (k + 1) := Nat.pow_pos (by decide)
  have hq1 : 1 ≤ q * 10 ^ (k + 1) := Nat.mul_pos hq hp
  have h1 : (q * 10 ^ (k + 2) + r) / 10 = q * 10 ^ (k + 1) + r / 10 := by rw [hb]; omega
  have h2 : (q * 10 ^ (k + 2) + r) % 10 = r % 10 := by rw [hb]; omega
  have hr2 : r / 10 < 10 ^ (k + 1) := Nat.div_lt_of_lt_mul (by rw [Nat.mul_comm, ← Nat.pow_succ]; exact hr)
  rw [decDigits_big (by rw [hb]; omega), h1, h2, dec_pieces (k + 1) q (r / 10) (by omega) hq hr2, List.append_assoc, ← pad_succ (by omega)]
theorem repeat_zero : ∀ (n : Nat), Lib.repeatL [48] n = List.replicate n 48
 | 0 => rfl
 | n + 1 => by
  rw [List.replicate_succ]
  show [48] ++ Lib.repeatL [48] n = _
  rw [repeat_zero n]
  rfl
theorem bytes_app (a b : List UInt8) : (⟨a.toArray⟩ : ByteArray) ++ ⟨b.toArray⟩ = ⟨(a ++ b).toArray⟩ := by
 apply ByteArray.ext
 simp [ByteArray.data_append]
theorem bytes_assoc (a b c : ByteArray) : (a ++ b) ++ c = a ++ (b ++ c) := by
 apply ByteArray.ext
 simp [ByteArray.data_append]
theorem bytes_size_app (a b : ByteArray) : (a ++ b).size = a.size + b.size := by
 show (a ++ b).data.size = a.data.size + b.data.size
 rw [ByteArray.data_append, Array.size_append]
end Go.Proofs.YtgoemhcngmpfbaaGreatDoor
