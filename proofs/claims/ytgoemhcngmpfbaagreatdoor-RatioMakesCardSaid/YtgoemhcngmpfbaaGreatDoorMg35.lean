/-
  Stage 8: the law RatioMakes.
-/
import Derived.Test.YtgoemhcngmpfbaaGreatDoorMg34

namespace Go.Proofs.YtgoemhcngmpfbaaGreatDoor
open Go.RowKit Go.Sort
set_option linter.unusedSimpArgs false

theorem eqs_run {op : Oper} {a : Act} {w : World} {x y : Operand} {u : TypeId} {b : Bool} {p q : ByteArray} (hb : (p.toList == q.toList) = b) (ho : op.op = .binOp .eql 9 x y u) (hx : a.eval x = .string p) (hy : a.eval y = .string q) :
    (execOp a.eval op).run Tryz.prog w = .ok (.value (.bool b)) w := by
  subst hb
  unfold execOp
  simp only [ho, hx, hy]
  go_simp
theorem eqz_run {op : Oper} {a : Act} {w : World} {x y : Operand} {u : TypeId} {b : Bool} {p q : Int} (hb : (p == q) = b) (ho : op.op = .binOp .eql 3 x y u) (hx : a.eval x = .int .i64 p) (hy : a.eval y = .int .i64 q) :
    (execOp a.eval op).run Tryz.prog w = .ok (.value (.bool b)) w := by
  subst hb
  unfold execOp
  simp only [ho, hx, hy]
  go_simp
theorem field_rat (s : Bool) (n : Nat) (t : Bool) (d : Nat) (w : World) : (Instr.field 27 (ratV s n t d) 1).run Tryz.prog w = .ok (intV t d) w := by
  unfold ratV intV
  kernel_rfl
theorem fld_rat {op : Oper} {a : Act} {w : World} {x : Operand} (ho : op.op = .field 27 x 1) {s t : Bool} {n d : Nat} (hx : a.eval x = ratV s n t d) : (execOp a.eval op).run Tryz.prog w = .ok (.value (intV t d)) w := by
  unfold execOp
  simp only [ho, hx, Sem.run_bind, field_rat, Result.andThen_ok, Sem.run_pure]
theorem dec_list (d : Nat) : (decS d).toList = Lib.decDigits d := by unfold decS; exact ByteArray.toList_mk _
theorem one_list : (⟨#[49]⟩ : ByteArray).toList = [49] := ByteArray.toList_mk [49]
theorem dec_one (d : Nat) : ((decS d).toList == (⟨#[49]⟩ : ByteArray).toList) = decide (d = 1) := by
  rw [dec_list, one_list]
  by_cases h : d = 1
  · subst h
    rw [Lib.decDigits_one (by decide)]
    decide
  · rw [decide_eq_false h]
    refine beq_eq_false_iff_ne.2 (fun e2 => ?_)
    by_cases h10 : d < 10
    · rw [Lib.decDigits_one h10] at e2
      have e3 : UInt8.ofNat (48 + d) = 49 := by simpa using e2
      have e4 := congrArg UInt8.toNat e3
      rw [UInt8.toNat_ofNat_of_lt' (by show 48 + d < 256; omega)] at e4
      have : (49 : UInt8).toNat = 49 := rfl
      omega
    · rw [decDigits_big h10] at e2
      have h3 := decDigits_pos (d / 10)
      have h4 := congrArg List.length e2
      rw [List.length_append] at h4
      have h5 : [UInt8.ofNat (48 + d % 10)].length = 1 := rfl
      have h6 : ([49] : List UInt8).length = 1 := rfl
      omega
theorem mkN_fits {n m : Nat} (h : Fits n) : Fits (mkN n m) := by
  unfold mkN
  split
  · exact Nat.pow_pos (by decide)
  · exact Nat.lt_of_le_of_lt (Nat.div_le_self _ _) h
theorem mkD_fits {n m : Nat} (h : Fits m) : Fits (mkD n m) := by
  unfold mkD
  split
  · exact Nat.pow_pos (by decide)
  · exact Nat.lt_of_le_of_lt (Nat.div_le_self _ _) h
theorem enters_Code8 : EntersP Tryz.prog 17 := entersP_of Tryz.func17 (by kernel_rfl) rfl
theorem enters_Chk8 : EntersP Tryz.prog 13 := entersP_of Tryz.func13 (by kernel_rfl) rfl
theorem enters_Of8 : EntersP Tryz.prog 15 := entersP_of Tryz.func15 (by kernel_rfl) rfl
theorem enters_Text8 : EntersP Tryz.prog 14 := entersP_of Tryz.func14 (by kernel_rfl) rfl
theorem enters_Whole : EntersP Tryz.prog 19 := entersP_of Tryz.func19 (by kernel_rfl) rfl
theorem enters_RText : EntersP Tryz.prog 20 := entersP_of Tryz.func20 (by kernel_rfl) rfl
theorem enters_works8 : EntersP Tryz.prog 22 := entersP_of Tryz.func22 (by kernel_rfl) rfl
theorem rtxt_one (t : Bool) (d : Nat) : rtxt t d false 1 = txt t d := by unfold rtxt; rw [if_pos ⟨rfl, rfl⟩]
theorem chk_le25 (s : Bool) (n : Nat) (t : Bool) (d : Nat) : chk s n t d ≤ 25 := by unfold chk; split <;> omega
theorem mkK_le (m : Nat) : mkK m ≤ 25 := by unfold mkK; split <;> omega
theorem trN_fits (s : Bool) (n : Nat) (t : Bool) (d : Nat) (h : Fits n) : Fits (trN s n t d) := by
  unfold trN
  split
  · exact Nat.lt_of_le_of_lt (Nat.div_le_self _ _) h
  · exact Nat.pow_pos (by decide)
set_option maxRecDepth 100000 in
set_option maxHeartbeats 16000000 in
theorem makes_run (s1 : Bool) (n1 : Nat) (s2 : Bool) (n2 : Nat) (s : Bool) (n : Nat) (t : Bool) (d : Nat) (w : World) (hn1 : Hid (Fits n1)) (hn2 : Hid (Fits n2)) (hn : Hid (Fits n)) (hd : Hid (Fits d)) (ht : Hid (Tab w)) :
    Calls Tryz.prog 3 #[intV s1 n1, intV s2 n2, ratV s n t d] w fun e w' => e = .returned (.bool true) ∧ Below w.heap.size w w' := by
  have HT0 : Hid (∀ w', Below w.heap.size w w' → Tab w') := fun w' hb => ht.out.below hb
  obtain ⟨S, hS⟩ : ∃ S, w.heap.size = S := ⟨_, rfl⟩
  rw [hS] at HT0
  have I0 := ((((Bs.start w hS).pushInt hS s1 n1 25).pushInt (show (w.alloc (boxI s1 n1 25)).heap.size = S + 1 by simp [hS]) s2 n2 25).pushRat (show ((w.alloc (boxI s1 n1 25)).alloc (boxI s2 n2 25)).heap.size = S + 1 + 1 by simp [hS]) s n t d 27)
  obtain ⟨W, hW⟩ : ∃ W, ((w.alloc (boxI s1 n1 25)).alloc (boxI s2 n2 25)).alloc (boxR s n t d 27) = W := ⟨_, rfl⟩
  rw [hW] at I0
  have I := Lib.hid I0
  clear I0
  have HM := fun W => Make_run s1 n1 s2 n2 W hn1 hn2
  obtain ⟨Z, hZ⟩ : ∃ x, mkS s1 n1 s2 n2 = x := ⟨_, rfl⟩
  obtain ⟨N, hN⟩ : ∃ x, mkN n1 n2 = x := ⟨_, rfl⟩
  obtain ⟨D, hD⟩ : ∃ x, mkD n1 n2 = x := ⟨_, rfl⟩
  obtain ⟨k1, hk1⟩ : ∃ x, mkK n2 = x := ⟨_, rfl⟩
  have HM8 := Lib.hid (fun W => Make_run8 s1 n1 s2 n2 Z N D k1 W hn1 hn2 hZ hN hD hk1)
  rw [hZ, hN, hD, hk1] at HM
  replace HM := Lib.hid HM
  have HFN : Hid (Fits N ∧ Fits D) := ⟨by rw [← hN]; exact mkN_fits hn1.out, by rw [← hD]; exact mkD_fits hn2.out⟩
  have hk1e : k1 ≤ 25 := by rw [← hk1]; exact mkK_le n2
  have HE1 := Lib.hid (fun W => code_errE k1 hk1e W)
  have HT := fun W => Trunc_run s n t d W hn hd
  obtain ⟨tz, htz⟩ : ∃ x, trS s n t d = x := ⟨_, rfl⟩
  obtain ⟨tn, htn⟩ : ∃ x, trN s n t d = x := ⟨_, rfl⟩
  obtain ⟨kc, hkc⟩ : ∃ x, chk s n t d = x := ⟨_, rfl⟩
  have HT8 := Lib.hid (fun W => Trunc_run8 s n t d tz tn kc W hn hd hkc htz htn)
  have HC8 := Lib.hid (fun W => Check_run8 s n t d kc W hn hd hkc)
  have HC := fun W => Check_run s n t d W hn hd
  rw [htz, htn, hkc] at HT
  rw [hkc] at HC
  replace HT := Lib.hid HT
  replace HC := Lib.hid HC
  have HFT : Hid (Fits tn) := by show Fits _; rw [← htn]; exact trN_fits s n t d hn.out
  have hkce : kc ≤ 25 := by rw [← hkc]; exact chk_le25 s n t d
  have HE2 := Lib.hid (fun W => code_errE kc hkce W)
  have HNg := Lib.hid (fun W => RNeg_run s n t d W hn)
  have HNi := Lib.hid (fun W => Neg_run s n W hn)
  obtain ⟨z, hz⟩ : ∃ x, sgn (!s) n = x := ⟨_, rfl⟩
  rw [hz] at HNg HNi
  have HWh := fun W => Whole_run s n t d W hn hd
  have HRT : Hid (∀ W, Tab W → Calls Tryz.prog 20 #[ratV s n t d] W fun e w' => e = .returned (.string (rtxt s n t d)) ∧ Below W.heap.size W w') := fun W hW => RText_run s n t d hn hd W hW
  have HRT8 := Lib.hid (fun W => Text_run8 s n t d W hn hd)
  have HOT8 := fun W => Text_run8 t d false 1 W hd fits_one
  have HOf8 := Lib.hid (fun W => Of_run8 1 false 1 W (by decide) rfl rfl)
  have HWk := Lib.hid (fun W => works_run W)
  obtain ⟨b, hb⟩ : ∃ b, whl s n t d = b := ⟨_, rfl⟩
  rw [hb] at HWh
  replace HWh := Lib.hid HWh
  have HB : Hid (kc = 0 → ((txt t d).toList == (⟨#[49]⟩ : ByteArray).toList) = b) := fun e => by
    rw [← hkc] at e
    have hv : vld s n t d = true := by unfold chk at e; split at e <;> simp_all
    have htf := (vld_spec hv).2.1
    rw [← hb]
    unfold whl txt
    rw [hv, htf]
    simp only [sgn, Bool.false_and, Bool.false_eq_true, if_false, Bool.true_and]
    exact dec_one d
  have HB2 : Hid (kc ≠ 0 → b = false) := fun e => by
    rw [← hkc] at e
    rw [← hb]
    unfold whl
    have : vld s n t d = false := by
      cases hv : vld s n t d
      · rfl
      · exact absurd (by unfold chk; rw [if_pos hv]) e
    rw [this]
    rfl
  rw [rtxt_one] at HOT8
  replace HOT8 := Lib.hid HOT8
  generalize rtxt s n t d = tx at *
  clear hZ hN hD hk1 htz htn hkc hz hb hn1 hn2 ht hk1e hkce
  rw [hS]
  go_enter Tryz.func3, Tryz.ntmps3
  go_upto_region 1 with (first | (with_reducible refine wpList_box_int rfl (.tmp 0) rfl rfl ?_) | (with_reducible refine wpList_box_int rfl (.tmp 1) rfl rfl ?_) | (with_reducible refine wpList_box_rat rfl (.tmp 2) rfl rfl ?_))
  clear hW
  have HX1 := Lib.hid (I.out.int 2 rfl)
  have HX2 := Lib.hid (I.out.int 1 rfl)
  go_wp2_with (first | (with_reducible refine wpList_load_int rfl (.tmp 3) rfl rfl HX1.out.o ?_) | (with_reducible refine wpList_load_int rfl (.tmp 4) rfl rfl HX2.out.o ?_))
  refine (HM.out _).mono ?_
  rintro e w1 ⟨rfl, hw⟩
  replace I := Lib.hid (I.out.below hw)
  clear hw HM HX1 HX2
  obtain ⟨B1, hB⟩ : ∃ K, w1.heap.size = K := ⟨_, rfl⟩
  obtain ⟨a1, ha⟩ : ∃ W, w1.alloc (boxRZ 27) = W := ⟨_, rfl⟩
  have I2 := I.out.pushRatZ hB 27
  rw [ha] at I2
  have HZ := Lib.hid (I2.rat 0 rfl)
  have I3 := Lib.hid (I2.putRat 0 rfl Z N false D rfl)
  clear I2 I
  go_upto_region 2 with (with_reducible refine wpList_store_rat rfl (.tmp 7) (.tmp 21) rfl (b := B1) (s := Z) (n := N) (t := false) (d := D) rfl rfl HZ.out ?_)
  clear ha HZ hB
  generalize st18 a1 B1 Z N false D = x1 at *
  have I := I3
  clear I3
  have HX1 := Lib.hid (I.out.int 3 rfl)
  have HX2 := Lib.hid (I.out.int 2 rfl)
  go_wp2_with (first | (with_reducible refine wpList_load_int rfl (.tmp 3) rfl rfl HX1.out.o ?_) | (with_reducible refine wpList_load_int rfl (.tmp 4) rfl rfl HX2.out.o ?_))
  refine (HM8.out _).mono ?_
  rintro e w1 ⟨rfl, hw⟩
  replace I := Lib.hid (I.out.below hw)
  clear hw HM8 HX1 HX2
  obtain ⟨B2, hB⟩ : ∃ K, w1.heap.size = K := ⟨_, rfl⟩
  obtain ⟨a1, ha⟩ : ∃ W, w1.alloc (boxRZ 27) = W := ⟨_, rfl⟩
  have I2 := I.out.pushRatZ hB 27
  rw [ha] at I2
  have HZ := Lib.hid (I2.rat 0 rfl)
  have I3 := Lib.hid (I2.putRat 0 rfl Z N false D rfl)
  clear I2 I
  go_upto_region 3 with (with_reducible refine wpList_store_rat rfl (.tmp 9) (.tmp 27) rfl (b := B2) (s := Z) (n := N) (t := false) (d := D) rfl rfl HZ.out ?_)
  clear ha HZ hB
  generalize st18 a1 B2 Z N false D = x1 at *
  have I := I3
  clear I3
  have HX1 := Lib.hid (I.out.rat 2 rfl)
  go_wp2_with (with_reducible refine wpList_load_rat rfl (.tmp 5) rfl rfl HX1.out ?_)
  refine (HT.out _).mono ?_
  rintro e w1 ⟨rfl, hw⟩
  replace I := Lib.hid (I.out.below hw)
  clear hw HT HX1
  obtain ⟨B3, hB⟩ : ∃ K, w1.heap.size = K := ⟨_, rfl⟩
  obtain ⟨a1, ha⟩ : ∃ W, w1.alloc (boxIZ 25) = W := ⟨_, rfl⟩
  have I2 := I.out.pushIntZ hB 25
  rw [ha] at I2
  have HZ := Lib.hid (I2.int 0 rfl)
  have I3 := Lib.hid (I2.putInt 0 rfl tz tn rfl)
  clear I2 I
  go_upto_region 4 with (with_reducible refine wpList_store_int rfl (.tmp 11) (.tmp 32) rfl (b := B3) (s := tz) (n := tn) rfl rfl HZ.out ?_)
  clear ha HZ hB
  generalize st9 a1 B3 tz tn = x1 at *
  have I := I3
  clear I3
  have HX1 := Lib.hid (I.out.rat 3 rfl)
  go_wp2_with (with_reducible refine wpList_load_rat rfl (.tmp 5) rfl rfl HX1.out ?_)
  refine (HT8.out _).mono ?_
  rintro e w1 ⟨rfl, hw⟩
  replace I := Lib.hid (I.out.below hw)
  clear hw HT8 HX1
  obtain ⟨B4, hB⟩ : ∃ K, w1.heap.size = K := ⟨_, rfl⟩
  obtain ⟨a1, ha⟩ : ∃ W, w1.alloc (boxIZ 25) = W := ⟨_, rfl⟩
  have I2 := I.out.pushIntZ hB 25
  rw [ha] at I2
  have HZ := Lib.hid (I2.int 0 rfl)
  have I3 := Lib.hid (I2.putInt 0 rfl tz tn rfl)
  clear I2 I
  go_upto_region 5 with (with_reducible refine wpList_store_int rfl (.tmp 13) (.tmp 37) rfl (b := B4) (s := tz) (n := tn) rfl rfl HZ.out ?_)
  clear ha HZ hB
  generalize st9 a1 B4 tz tn = x1 at *
  have I := I3
  clear I3
  go_cut [15] (fun s15 wx => s15 = .bool b ∧ Bs w S [.int B4 tz tn, .int B3 tz tn, .rat B2 Z N false D, .rat B1 Z N false D, .rat (S + 1 + 1) s n t d, .int (S + 1) s2 n2, .int S s1 n1] wx)
  case first =>
    by_cases hk0 : kc = 0
    · subst hk0
      have HBb := Lib.hid (HB.out rfl)
      clear HB HB2
      refine rg_begin (fun V => Bs w S [.int B4 tz tn, .int B3 tz tn, .rat B2 Z N false D, .rat B1 Z N false D, .rat (S + 1 + 1) s n t d, .int (S + 1) s2 n2, .int S s1 n1] V) (by kernel_rfl) I.out.drew (fun hS => ?_)
      clear I
      refine rg_take 0 (ratV s n t d) rfl (by kernel_rfl) (by kernel_rfl) (by kernel_rfl) (fun _ _ _ h => h) rfl (fun w hSw => ld_rat (.tmp 5) rfl rfl (hSw.rat 4 rfl)) hS ?_
      simp only [List.getElem_toArray, List.getElem_cons_zero, List.getElem_cons_succ, Act.put, List.setIfInBounds_toArray, List.set_cons_zero, List.set_cons_succ]
      refine rg_one 1 (by kernel_rfl) (rs_of rfl rfl (wp_call rfl enters_Chk8 rfl (HC8.out _) (fun V hV => ⟨hS.below hV, ?_⟩)))
      replace hS := hS.below hV
      clear hV
      simp only [List.getElem_toArray, List.getElem_cons_zero, List.getElem_cons_succ, Act.put, List.setIfInBounds_toArray, List.set_cons_zero, List.set_cons_succ]
      refine rg_take 2 (.bool true) rfl (by kernel_rfl) (by kernel_rfl) (by kernel_rfl) (fun _ _ _ h => h) rfl (fun w _ => ?_) hS ?_
      · go_simp
      simp only [List.getElem_toArray, List.getElem_cons_zero, List.getElem_cons_succ, Act.put, List.setIfInBounds_toArray, List.set_cons_zero, List.set_cons_succ]
      refine rg_take 3 (.bool true) rfl (by kernel_rfl) (by kernel_rfl) (by kernel_rfl) (fun _ _ _ h => h) rfl (fun w _ => ?_) hS ?_
      · go_simp
      simp only [List.getElem_toArray, List.getElem_cons_zero, List.getElem_cons_succ, Act.put, List.setIfInBounds_toArray, List.set_cons_zero, List.set_cons_succ]
      refine rg_want 4 (.pointer (some ⟨S + 1 + 1, 9, none⟩)) rfl (by kernel_rfl) (by kernel_rfl) (by kernel_rfl) (fun _ _ _ h => h) rfl (fun w _ => ?_) hS ?_
      · go_simp
      simp only [List.getElem_toArray, List.getElem_cons_zero, List.getElem_cons_succ, Act.put, List.setIfInBounds_toArray, List.set_cons_zero, List.set_cons_succ]
      refine rg_want 5 (intV t d) rfl (by kernel_rfl) (by kernel_rfl) (by kernel_rfl) (fun _ _ _ h => h) rfl (fun w hSw => ld_int (.tmp 43) rfl rfl (hSw.rat 4 rfl).den) hS ?_
      simp only [List.getElem_toArray, List.getElem_cons_zero, List.getElem_cons_succ, Act.put, List.setIfInBounds_toArray, List.set_cons_zero, List.set_cons_succ]
      refine rg_one 6 (by kernel_rfl) (rs_want rfl rfl (wp_call rfl enters_Of8 rfl (HOf8.out _) (fun V2 hV => ⟨hS.below hV, ?_⟩)))
      replace hS := hS.below hV
      clear hV
      simp only [List.getElem_toArray, List.getElem_cons_zero, List.getElem_cons_succ, Act.put, List.setIfInBounds_toArray, List.set_cons_zero, List.set_cons_succ]
      refine rg_want 7 (intV false 1) rfl (by kernel_rfl) (by kernel_rfl) (by kernel_rfl) (fun _ _ _ h => h) rfl (fun w hSw => fld_rat (x := .tmp 45) rfl rfl) hS ?_
      simp only [List.getElem_toArray, List.getElem_cons_zero, List.getElem_cons_succ, Act.put, List.setIfInBounds_toArray, List.set_cons_zero, List.set_cons_succ]
      refine rg_want 8 (ratV t d false 1) rfl (by kernel_rfl) (by kernel_rfl) (by kernel_rfl) (fun _ _ _ h => h) rfl (fun w hSw => build_rat (x := .tmp 44) (y := .tmp 46) rfl rfl rfl) hS ?_
      simp only [List.getElem_toArray, List.getElem_cons_zero, List.getElem_cons_succ, Act.put, List.setIfInBounds_toArray, List.set_cons_zero, List.set_cons_succ]
      refine rg_one 9 (by kernel_rfl) (rs_want rfl rfl (wp_call rfl enters_Text8 rfl (HOT8.out _) (fun V3 hV => ⟨hS.below hV, ?_⟩)))
      replace hS := hS.below hV
      clear hV
      simp only [List.getElem_toArray, List.getElem_cons_zero, List.getElem_cons_succ, Act.put, List.setIfInBounds_toArray, List.set_cons_zero, List.set_cons_succ]
      refine rg_want 10 (.bool b) rfl (by kernel_rfl) (by kernel_rfl) (by kernel_rfl) (fun _ _ _ h => h) rfl (fun w hSw => eqs_run (x := .tmp 48) HBb.out rfl rfl rfl) hS ?_
      simp only [List.getElem_toArray, List.getElem_cons_zero, List.getElem_cons_succ, Act.put, List.setIfInBounds_toArray, List.set_cons_zero, List.set_cons_succ]
      refine rg_take 11 (.bool b) rfl (by kernel_rfl) (by kernel_rfl) (by kernel_rfl) (fun _ _ _ h => h) rfl (fun w _ => ?_) hS ?_
      · go_simp
      simp only [List.getElem_toArray, List.getElem_cons_zero, List.getElem_cons_succ, Act.put, List.setIfInBounds_toArray, List.set_cons_zero, List.set_cons_succ]
      refine rg_take 12 (.bool b) rfl (by kernel_rfl) (by kernel_rfl) (by kernel_rfl) (fun _ _ _ h => h) rfl (fun w _ => ?_) hS ?_
      · go_simp
      simp only [List.getElem_toArray, List.getElem_cons_zero, List.getElem_cons_succ, Act.put, List.setIfInBounds_toArray, List.set_cons_zero, List.set_cons_succ]
      refine wpAnyH_done (by kernel_rfl) ?_ _
      go_wp2_with fail
      go_meet
      exact ⟨rfl, hS⟩
    · obtain rfl := HB2.out hk0
      have hkz : ((kc : Int) == 0) = false := by simp; exact hk0
      clear HB HB2
      refine rg_begin (fun V => Bs w S [.int B4 tz tn, .int B3 tz tn, .rat B2 Z N false D, .rat B1 Z N false D, .rat (S + 1 + 1) s n t d, .int (S + 1) s2 n2, .int S s1 n1] V) (by kernel_rfl) I.out.drew (fun hS => ?_)
      clear I
      refine rg_take 0 (ratV s n t d) rfl (by kernel_rfl) (by kernel_rfl) (by kernel_rfl) (fun _ _ _ h => h) rfl (fun w hSw => ld_rat (.tmp 5) rfl rfl (hSw.rat 4 rfl)) hS ?_
      simp only [List.getElem_toArray, List.getElem_cons_zero, List.getElem_cons_succ, Act.put, List.setIfInBounds_toArray, List.set_cons_zero, List.set_cons_succ]
      refine rg_one 1 (by kernel_rfl) (rs_of rfl rfl (wp_call rfl enters_Chk8 rfl (HC8.out _) (fun V hV => ⟨hS.below hV, ?_⟩)))
      replace hS := hS.below hV
      clear hV
      simp only [List.getElem_toArray, List.getElem_cons_zero, List.getElem_cons_succ, Act.put, List.setIfInBounds_toArray, List.set_cons_zero, List.set_cons_succ]
      refine rg_take 2 (.bool false) rfl (by kernel_rfl) (by kernel_rfl) (by kernel_rfl) (fun _ _ _ h => h) rfl (fun w hSw => eqz_run (x := .tmp 40) (y := .const (.int .i64 0)) hkz rfl rfl rfl) hS ?_
      simp only [List.getElem_toArray, List.getElem_cons_zero, List.getElem_cons_succ, Act.put, List.setIfInBounds_toArray, List.set_cons_zero, List.set_cons_succ]
      refine rg_take 3 (.bool false) rfl (by kernel_rfl) (by kernel_rfl) (by kernel_rfl) (fun _ _ _ h => h) rfl (fun w _ => ?_) hS ?_
      · go_simp
      simp only [List.getElem_toArray, List.getElem_cons_zero, List.getElem_cons_succ, Act.put, List.setIfInBounds_toArray, List.set_cons_zero, List.set_cons_succ]
      refine rg_skip 4 rfl (by kernel_rfl) (by kernel_rfl) (by kernel_rfl) (fun _ _ _ h => h) rfl hS ?_
      simp only [List.getElem_toArray, List.getElem_cons_zero, List.getElem_cons_succ, Act.put, List.setIfInBounds_toArray, List.set_cons_zero, List.set_cons_succ]
      refine rg_skip 5 rfl (by kernel_rfl) (by kernel_rfl) (by kernel_rfl) (fun _ _ _ h => h) rfl hS ?_
      simp only [List.getElem_toArray, List.getElem_cons_zero, List.getElem_cons_succ, Act.put, List.setIfInBounds_toArray, List.set_cons_zero, List.set_cons_succ]
      refine rg_skip 6 rfl (by kernel_rfl) (by kernel_rfl) (by kernel_rfl) (fun _ _ _ h => h) rfl hS ?_
      simp only [List.getElem_toArray, List.getElem_cons_zero, List.getElem_cons_succ, Act.put, List.setIfInBounds_toArray, List.set_cons_zero, List.set_cons_succ]
      refine rg_skip 7 rfl (by kernel_rfl) (by kernel_rfl) (by kernel_rfl) (fun _ _ _ h => h) rfl hS ?_
      simp only [List.getElem_toArray, List.getElem_cons_zero, List.getElem_cons_succ, Act.put, List.setIfInBounds_toArray, List.set_cons_zero, List.set_cons_succ]
      refine rg_skip 8 rfl (by kernel_rfl) (by kernel_rfl) (by kernel_rfl) (fun _ _ _ h => h) rfl hS ?_
      simp only [List.getElem_toArray, List.getElem_cons_zero, List.getElem_cons_succ, Act.put, List.setIfInBounds_toArray, List.set_cons_zero, List.set_cons_succ]
      refine rg_skip 9 rfl (by kernel_rfl) (by kernel_rfl) (by kernel_rfl) (fun _ _ _ h => h) rfl hS ?_
      simp only [List.getElem_toArray, List.getElem_cons_zero, List.getElem_cons_succ, Act.put, List.setIfInBounds_toArray, List.set_cons_zero, List.set_cons_succ]
      refine rg_skip 10 rfl (by kernel_rfl) (by kernel_rfl) (by kernel_rfl) (fun _ _ _ h => h) rfl hS ?_
      simp only [List.getElem_toArray, List.getElem_cons_zero, List.getElem_cons_succ, Act.put, List.setIfInBounds_toArray, List.set_cons_zero, List.set_cons_succ]
      refine rg_take 11 (.bool false) rfl (by kernel_rfl) (by kernel_rfl) (by kernel_rfl) (fun _ _ _ h => h) rfl (fun w _ => ?_) hS ?_
      · go_simp
      simp only [List.getElem_toArray, List.getElem_cons_zero, List.getElem_cons_succ, Act.put, List.setIfInBounds_toArray, List.set_cons_zero, List.set_cons_succ]
      refine rg_take 12 (.bool false) rfl (by kernel_rfl) (by kernel_rfl) (by kernel_rfl) (fun _ _ _ h => h) rfl (fun w _ => ?_) hS ?_
      · go_simp
      simp only [List.getElem_toArray, List.getElem_cons_zero, List.getElem_cons_succ, Act.put, List.setIfInBounds_toArray, List.set_cons_zero, List.set_cons_succ]
      refine wpAnyH_done (by kernel_rfl) ?_ _
      go_wp2_with fail
      go_meet
      exact ⟨rfl, hS⟩
  case rest =>
  obtain ⟨rfl, I2⟩ := hcut
  clear I HB HB2 HOf8 HOT8
  have I := Lib.hid I2
  clear I2
  have HX1 := Lib.hid (I.out.rat 4 rfl)
  go_wp2_with (with_reducible refine wpList_load_rat rfl (.tmp 5) rfl rfl HX1.out ?_)
  refine (HNg.out _).mono ?_
  rintro e w1 ⟨rfl, hw⟩
  replace I := Lib.hid (I.out.below hw)
  clear hw HNg HX1
  obtain ⟨B6, hB⟩ : ∃ K, w1.heap.size = K := ⟨_, rfl⟩
  obtain ⟨a1, ha⟩ : ∃ W, w1.alloc (boxRZ 27) = W := ⟨_, rfl⟩
  have I2 := I.out.pushRatZ hB 27
  rw [ha] at I2
  have HZ := Lib.hid (I2.rat 0 rfl)
  have I3 := Lib.hid (I2.putRat 0 rfl z n t d rfl)
  clear I2 I
  go_upto_region 7 with (with_reducible refine wpList_store_rat rfl (.tmp 16) (.tmp 52) rfl (b := B6) (s := z) (n := n) (t := t) (d := d) rfl rfl HZ.out ?_)
  clear ha HZ hB
  generalize st18 a1 B6 z n t d = x1 at *
  have I := I3
  clear I3
  refine rg_begin (fun V => Bs w S [.rat B6 z n t d, .int B4 tz tn, .int B3 tz tn, .rat B2 Z N false D, .rat B1 Z N false D, .rat (S + 1 + 1) s n t d, .int (S + 1) s2 n2, .int S s1 n1] V) (by kernel_rfl) I.out.drew (fun hS => ?_)
  clear I
  refine rg_take 0 (ratV Z N false D) rfl (by kernel_rfl) (by kernel_rfl) (by kernel_rfl) (fun _ _ _ h => h) rfl (fun w hSw => ld_rat (.tmp 7) rfl rfl (hSw.rat 4 rfl)) hS ?_
  simp only [List.getElem_toArray, List.getElem_cons_zero, List.getElem_cons_succ, Act.put, List.setIfInBounds_toArray, List.set_cons_zero, List.set_cons_succ]
  refine rg_take 1 (ratV Z N false D) rfl (by kernel_rfl) (by kernel_rfl) (by kernel_rfl) (fun _ _ _ h => h) rfl (fun w hSw => ld_rat (.tmp 9) rfl rfl (hSw.rat 3 rfl)) hS ?_
  simp only [List.getElem_toArray, List.getElem_cons_zero, List.getElem_cons_succ, Act.put, List.setIfInBounds_toArray, List.set_cons_zero, List.set_cons_succ]
  refine rg_take 2 (.bool true) rfl (by kernel_rfl) (by kernel_rfl) (by kernel_rfl) (fun _ _ _ h => h) rfl (fun w hSw => eqr_self (x := .tmp 53) (y := .tmp 54) rfl rfl rfl HFN.out.1 HFN.out.2) hS ?_
  simp only [List.getElem_toArray, List.getElem_cons_zero, List.getElem_cons_succ, Act.put, List.setIfInBounds_toArray, List.set_cons_zero, List.set_cons_succ]
  refine rg_take 3 (.bool true) rfl (by kernel_rfl) (by kernel_rfl) (by kernel_rfl) (fun _ _ _ h => h) rfl (fun w _ => ?_) hS ?_
  · go_simp
  simp only [List.getElem_toArray, List.getElem_cons_zero, List.getElem_cons_succ, Act.put, List.setIfInBounds_toArray, List.set_cons_zero, List.set_cons_succ]
  refine rg_want 4 (errV k1) rfl (by kernel_rfl) (by kernel_rfl) (by kernel_rfl) (fun _ _ _ h => h) rfl (fun w _ => ?_) hS ?_
  · go_simp
  simp only [List.getElem_toArray, List.getElem_cons_zero, List.getElem_cons_succ, Act.put, List.setIfInBounds_toArray, List.set_cons_zero, List.set_cons_succ]
  refine rg_want 6 (.int .i64 (k1 : Int)) rfl (by kernel_rfl) (by kernel_rfl) (by kernel_rfl) (fun _ _ _ h => h) rfl (fun w _ => ?_) hS ?_
  · go_simp
  simp only [List.getElem_toArray, List.getElem_cons_zero, List.getElem_cons_succ, Act.put, List.setIfInBounds_toArray, List.set_cons_zero, List.set_cons_succ]
  refine rg_one 5 (by kernel_rfl) (rs_want rfl rfl (wp_call rfl enters_Code8 rfl (HE1.out _) (fun V hV => ⟨hS.below hV, ?_⟩)))
  have hS2 := hS.below hV
  clear hS hV
  have hS := hS2
  clear hS2
  simp only [List.getElem_toArray, List.getElem_cons_zero, List.getElem_cons_succ, Act.put, List.setIfInBounds_toArray, List.set_cons_zero, List.set_cons_succ]
  refine rg_want 7 (.bool true) rfl (by kernel_rfl) (by kernel_rfl) (by kernel_rfl) (fun _ _ _ h => h) rfl (fun w _ => ?_) hS ?_
  · go_simp
  simp only [List.getElem_toArray, List.getElem_cons_zero, List.getElem_cons_succ, Act.put, List.setIfInBounds_toArray, List.set_cons_zero, List.set_cons_succ]
  refine rg_take 8 (.bool true) rfl (by kernel_rfl) (by kernel_rfl) (by kernel_rfl) (fun _ _ _ h => h) rfl (fun w _ => ?_) hS ?_
  · go_simp
  simp only [List.getElem_toArray, List.getElem_cons_zero, List.getElem_cons_succ, Act.put, List.setIfInBounds_toArray, List.set_cons_zero, List.set_cons_succ]
  refine rg_take 9 (.bool true) rfl (by kernel_rfl) (by kernel_rfl) (by kernel_rfl) (fun _ _ _ h => h) rfl (fun w _ => ?_) hS ?_
  · go_simp
  simp only [List.getElem_toArray, List.getElem_cons_zero, List.getElem_cons_succ, Act.put, List.setIfInBounds_toArray, List.set_cons_zero, List.set_cons_succ]
  refine rg_want 10 (intV tz tn) rfl (by kernel_rfl) (by kernel_rfl) (by kernel_rfl) (fun _ _ _ h => h) rfl (fun w hSw => ld_int (.tmp 11) rfl rfl (hSw.int 2 rfl).o) hS ?_
  simp only [List.getElem_toArray, List.getElem_cons_zero, List.getElem_cons_succ, Act.put, List.setIfInBounds_toArray, List.set_cons_zero, List.set_cons_succ]
  refine rg_want 11 (intV tz tn) rfl (by kernel_rfl) (by kernel_rfl) (by kernel_rfl) (fun _ _ _ h => h) rfl (fun w hSw => ld_int (.tmp 13) rfl rfl (hSw.int 1 rfl).o) hS ?_
  simp only [List.getElem_toArray, List.getElem_cons_zero, List.getElem_cons_succ, Act.put, List.setIfInBounds_toArray, List.set_cons_zero, List.set_cons_succ]
  refine rg_want 12 (.bool true) rfl (by kernel_rfl) (by kernel_rfl) (by kernel_rfl) (fun _ _ _ h => h) rfl (fun w hSw => eqi_run (x := .tmp 63) (y := .tmp 64) (by simp) rfl rfl rfl HFT.out HFT.out) hS ?_
  simp only [List.getElem_toArray, List.getElem_cons_zero, List.getElem_cons_succ, Act.put, List.setIfInBounds_toArray, List.set_cons_zero, List.set_cons_succ]
  refine rg_take 13 (.bool true) rfl (by kernel_rfl) (by kernel_rfl) (by kernel_rfl) (fun _ _ _ h => h) rfl (fun w _ => ?_) hS ?_
  · go_simp
  simp only [List.getElem_toArray, List.getElem_cons_zero, List.getElem_cons_succ, Act.put, List.setIfInBounds_toArray, List.set_cons_zero, List.set_cons_succ]
  refine rg_take 14 (.bool true) rfl (by kernel_rfl) (by kernel_rfl) (by kernel_rfl) (fun _ _ _ h => h) rfl (fun w _ => ?_) hS ?_
  · go_simp
  simp only [List.getElem_toArray, List.getElem_cons_zero, List.getElem_cons_succ, Act.put, List.setIfInBounds_toArray, List.set_cons_zero, List.set_cons_succ]
  refine rg_want 15 (errV kc) rfl (by kernel_rfl) (by kernel_rfl) (by kernel_rfl) (fun _ _ _ h => h) rfl (fun w _ => ?_) hS ?_
  · go_simp
  simp only [List.getElem_toArray, List.getElem_cons_zero, List.getElem_cons_succ, Act.put, List.setIfInBounds_toArray, List.set_cons_zero, List.set_cons_succ]
  refine rg_want 17 (.int .i64 (kc : Int)) rfl (by kernel_rfl) (by kernel_rfl) (by kernel_rfl) (fun _ _ _ h => h) rfl (fun w _ => ?_) hS ?_
  · go_simp
  simp only [List.getElem_toArray, List.getElem_cons_zero, List.getElem_cons_succ, Act.put, List.setIfInBounds_toArray, List.set_cons_zero, List.set_cons_succ]
  refine rg_one 16 (by kernel_rfl) (rs_want rfl rfl (wp_call rfl enters_Code8 rfl (HE2.out _) (fun V hV => ⟨hS.below hV, ?_⟩)))
  have hS2 := hS.below hV
  clear hS hV
  have hS := hS2
  clear hS2
  simp only [List.getElem_toArray, List.getElem_cons_zero, List.getElem_cons_succ, Act.put, List.setIfInBounds_toArray, List.set_cons_zero, List.set_cons_succ]
  refine rg_want 18 (.bool true) rfl (by kernel_rfl) (by kernel_rfl) (by kernel_rfl) (fun _ _ _ h => h) rfl (fun w _ => ?_) hS ?_
  · go_simp
  simp only [List.getElem_toArray, List.getElem_cons_zero, List.getElem_cons_succ, Act.put, List.setIfInBounds_toArray, List.set_cons_zero, List.set_cons_succ]
  refine rg_take 19 (.bool true) rfl (by kernel_rfl) (by kernel_rfl) (by kernel_rfl) (fun _ _ _ h => h) rfl (fun w _ => ?_) hS ?_
  · go_simp
  simp only [List.getElem_toArray, List.getElem_cons_zero, List.getElem_cons_succ, Act.put, List.setIfInBounds_toArray, List.set_cons_zero, List.set_cons_succ]
  refine rg_take 20 (.bool true) rfl (by kernel_rfl) (by kernel_rfl) (by kernel_rfl) (fun _ _ _ h => h) rfl (fun w _ => ?_) hS ?_
  · go_simp
  simp only [List.getElem_toArray, List.getElem_cons_zero, List.getElem_cons_succ, Act.put, List.setIfInBounds_toArray, List.set_cons_zero, List.set_cons_succ]
  refine rg_want 21 (ratV s n t d) rfl (by kernel_rfl) (by kernel_rfl) (by kernel_rfl) (fun _ _ _ h => h) rfl (fun w hSw => ld_rat (.tmp 5) rfl rfl (hSw.rat 5 rfl)) hS ?_
  simp only [List.getElem_toArray, List.getElem_cons_zero, List.getElem_cons_succ, Act.put, List.setIfInBounds_toArray, List.set_cons_zero, List.set_cons_succ]
  refine rg_want 24 (ratV s n t d) rfl (by kernel_rfl) (by kernel_rfl) (by kernel_rfl) (fun _ _ _ h => h) rfl (fun w hSw => ld_rat (.tmp 5) rfl rfl (hSw.rat 5 rfl)) hS ?_
  simp only [List.getElem_toArray, List.getElem_cons_zero, List.getElem_cons_succ, Act.put, List.setIfInBounds_toArray, List.set_cons_zero, List.set_cons_succ]
  refine rg_one 22 (by kernel_rfl) (rs_want rfl rfl (wp_call rfl enters_ChkR rfl (HC.out _) (fun V hV => ⟨hS.below hV, ?_⟩)))
  have hS2 := hS.below hV
  clear hS hV
  have hS := hS2
  clear hS2
  simp only [List.getElem_toArray, List.getElem_cons_zero, List.getElem_cons_succ, Act.put, List.setIfInBounds_toArray, List.set_cons_zero, List.set_cons_succ]
  refine rg_one 23 (by kernel_rfl) (rs_want rfl rfl (wp_call rfl enters_Code8 rfl (HE2.out _) (fun V hV => ⟨hS.below hV, ?_⟩)))
  have hS2 := hS.below hV
  clear hS hV
  have hS := hS2
  clear hS2
  simp only [List.getElem_toArray, List.getElem_cons_zero, List.getElem_cons_succ, Act.put, List.setIfInBounds_toArray, List.set_cons_zero, List.set_cons_succ]
  refine rg_one 25 (by kernel_rfl) (rs_want rfl rfl (wp_call rfl enters_Chk8 rfl (HC8.out _) (fun V hV => ⟨hS.below hV, ?_⟩)))
  have hS2 := hS.below hV
  clear hS hV
  have hS := hS2
  clear hS2
  simp only [List.getElem_toArray, List.getElem_cons_zero, List.getElem_cons_succ, Act.put, List.setIfInBounds_toArray, List.set_cons_zero, List.set_cons_succ]
  refine rg_want 26 (.bool true) rfl (by kernel_rfl) (by kernel_rfl) (by kernel_rfl) (fun _ _ _ h => h) rfl (fun w _ => ?_) hS ?_
  · go_simp
  simp only [List.getElem_toArray, List.getElem_cons_zero, List.getElem_cons_succ, Act.put, List.setIfInBounds_toArray, List.set_cons_zero, List.set_cons_succ]
  refine rg_take 27 (.bool true) rfl (by kernel_rfl) (by kernel_rfl) (by kernel_rfl) (fun _ _ _ h => h) rfl (fun w _ => ?_) hS ?_
  · go_simp
  simp only [List.getElem_toArray, List.getElem_cons_zero, List.getElem_cons_succ, Act.put, List.setIfInBounds_toArray, List.set_cons_zero, List.set_cons_succ]
  refine rg_take 28 (.bool true) rfl (by kernel_rfl) (by kernel_rfl) (by kernel_rfl) (fun _ _ _ h => h) rfl (fun w _ => ?_) hS ?_
  · go_simp
  simp only [List.getElem_toArray, List.getElem_cons_zero, List.getElem_cons_succ, Act.put, List.setIfInBounds_toArray, List.set_cons_zero, List.set_cons_succ]
  refine rg_want 29 (ratV s n t d) rfl (by kernel_rfl) (by kernel_rfl) (by kernel_rfl) (fun _ _ _ h => h) rfl (fun w hSw => ld_rat (.tmp 5) rfl rfl (hSw.rat 5 rfl)) hS ?_
  simp only [List.getElem_toArray, List.getElem_cons_zero, List.getElem_cons_succ, Act.put, List.setIfInBounds_toArray, List.set_cons_zero, List.set_cons_succ]
  refine rg_want 31 (.bool b) rfl (by kernel_rfl) (by kernel_rfl) (by kernel_rfl) (fun _ _ _ h => h) rfl (fun w _ => ?_) hS ?_
  · go_simp
  simp only [List.getElem_toArray, List.getElem_cons_zero, List.getElem_cons_succ, Act.put, List.setIfInBounds_toArray, List.set_cons_zero, List.set_cons_succ]
  refine rg_one 30 (by kernel_rfl) (rs_want rfl rfl (wp_call rfl enters_Whole rfl (HWh.out _) (fun V hV => ⟨hS.below hV, ?_⟩)))
  have hS2 := hS.below hV
  clear hS hV
  have hS := hS2
  clear hS2
  simp only [List.getElem_toArray, List.getElem_cons_zero, List.getElem_cons_succ, Act.put, List.setIfInBounds_toArray, List.set_cons_zero, List.set_cons_succ]
  refine rg_want 32 (.bool true) rfl (by kernel_rfl) (by kernel_rfl) (by kernel_rfl) (fun _ _ _ h => h) rfl (fun w _ => ?_) hS ?_
  · go_simp
  simp only [List.getElem_toArray, List.getElem_cons_zero, List.getElem_cons_succ, Act.put, List.setIfInBounds_toArray, List.set_cons_zero, List.set_cons_succ]
  refine rg_take 33 (.bool true) rfl (by kernel_rfl) (by kernel_rfl) (by kernel_rfl) (fun _ _ _ h => h) rfl (fun w _ => ?_) hS ?_
  · go_simp
  simp only [List.getElem_toArray, List.getElem_cons_zero, List.getElem_cons_succ, Act.put, List.setIfInBounds_toArray, List.set_cons_zero, List.set_cons_succ]
  refine rg_take 34 (.bool true) rfl (by kernel_rfl) (by kernel_rfl) (by kernel_rfl) (fun _ _ _ h => h) rfl (fun w _ => ?_) hS ?_
  · go_simp
  simp only [List.getElem_toArray, List.getElem_cons_zero, List.getElem_cons_succ, Act.put, List.setIfInBounds_toArray, List.set_cons_zero, List.set_cons_succ]
  refine rg_want 35 (ratV s n t d) rfl (by kernel_rfl) (by kernel_rfl) (by kernel_rfl) (fun _ _ _ h => h) rfl (fun w hSw => ld_rat (.tmp 5) rfl rfl (hSw.rat 5 rfl)) hS ?_
  simp only [List.getElem_toArray, List.getElem_cons_zero, List.getElem_cons_succ, Act.put, List.setIfInBounds_toArray, List.set_cons_zero, List.set_cons_succ]
  refine rg_want 37 (ratV s n t d) rfl (by kernel_rfl) (by kernel_rfl) (by kernel_rfl) (fun _ _ _ h => h) rfl (fun w hSw => ld_rat (.tmp 5) rfl rfl (hSw.rat 5 rfl)) hS ?_
  simp only [List.getElem_toArray, List.getElem_cons_zero, List.getElem_cons_succ, Act.put, List.setIfInBounds_toArray, List.set_cons_zero, List.set_cons_succ]
  refine rg_one 36 (by kernel_rfl) (rs_want rfl rfl (wp_call rfl enters_RText rfl (HRT.out _ (HT0.out _ hS.bl)) (fun V hV => ⟨hS.below hV, ?_⟩)))
  have hS2 := hS.below hV
  clear hS hV
  have hS := hS2
  clear hS2
  simp only [List.getElem_toArray, List.getElem_cons_zero, List.getElem_cons_succ, Act.put, List.setIfInBounds_toArray, List.set_cons_zero, List.set_cons_succ]
  refine rg_one 38 (by kernel_rfl) (rs_want rfl rfl (wp_call rfl enters_Text8 rfl (HRT8.out _) (fun V hV => ⟨hS.below hV, ?_⟩)))
  have hS2 := hS.below hV
  clear hS hV
  have hS := hS2
  clear hS2
  simp only [List.getElem_toArray, List.getElem_cons_zero, List.getElem_cons_succ, Act.put, List.setIfInBounds_toArray, List.set_cons_zero, List.set_cons_succ]
  refine rg_want 39 (.bool true) rfl (by kernel_rfl) (by kernel_rfl) (by kernel_rfl) (fun _ _ _ h => h) rfl (fun w hSw => eqs_run (x := .tmp 89) (y := .tmp 91) (beq_self_eq_true _) rfl rfl rfl) hS ?_
  simp only [List.getElem_toArray, List.getElem_cons_zero, List.getElem_cons_succ, Act.put, List.setIfInBounds_toArray, List.set_cons_zero, List.set_cons_succ]
  refine rg_take 40 (.bool true) rfl (by kernel_rfl) (by kernel_rfl) (by kernel_rfl) (fun _ _ _ h => h) rfl (fun w _ => ?_) hS ?_
  · go_simp
  simp only [List.getElem_toArray, List.getElem_cons_zero, List.getElem_cons_succ, Act.put, List.setIfInBounds_toArray, List.set_cons_zero, List.set_cons_succ]
  refine rg_take 41 (.bool true) rfl (by kernel_rfl) (by kernel_rfl) (by kernel_rfl) (fun _ _ _ h => h) rfl (fun w _ => ?_) hS ?_
  · go_simp
  simp only [List.getElem_toArray, List.getElem_cons_zero, List.getElem_cons_succ, Act.put, List.setIfInBounds_toArray, List.set_cons_zero, List.set_cons_succ]
  refine rg_want 42 (.pointer (some ⟨B6, 9, none⟩)) rfl (by kernel_rfl) (by kernel_rfl) (by kernel_rfl) (fun _ _ _ h => h) rfl (fun w _ => ?_) hS ?_
  · go_simp
  simp only [List.getElem_toArray, List.getElem_cons_zero, List.getElem_cons_succ, Act.put, List.setIfInBounds_toArray, List.set_cons_zero, List.set_cons_succ]
  refine rg_want 43 (intV t d) rfl (by kernel_rfl) (by kernel_rfl) (by kernel_rfl) (fun _ _ _ h => h) rfl (fun w hSw => ld_int (.tmp 95) rfl rfl (hSw.rat 0 rfl).den) hS ?_
  simp only [List.getElem_toArray, List.getElem_cons_zero, List.getElem_cons_succ, Act.put, List.setIfInBounds_toArray, List.set_cons_zero, List.set_cons_succ]
  refine rg_want 44 (.pointer (some ⟨S + 1 + 1, 9, none⟩)) rfl (by kernel_rfl) (by kernel_rfl) (by kernel_rfl) (fun _ _ _ h => h) rfl (fun w _ => ?_) hS ?_
  · go_simp
  simp only [List.getElem_toArray, List.getElem_cons_zero, List.getElem_cons_succ, Act.put, List.setIfInBounds_toArray, List.set_cons_zero, List.set_cons_succ]
  refine rg_want 45 (intV t d) rfl (by kernel_rfl) (by kernel_rfl) (by kernel_rfl) (fun _ _ _ h => h) rfl (fun w hSw => ld_int (.tmp 97) rfl rfl (hSw.rat 5 rfl).den) hS ?_
  simp only [List.getElem_toArray, List.getElem_cons_zero, List.getElem_cons_succ, Act.put, List.setIfInBounds_toArray, List.set_cons_zero, List.set_cons_succ]
  refine rg_want 46 (.bool true) rfl (by kernel_rfl) (by kernel_rfl) (by kernel_rfl) (fun _ _ _ h => h) rfl (fun w hSw => eqi_run (x := .tmp 96) (y := .tmp 98) (by simp) rfl rfl rfl hd.out hd.out) hS ?_
  simp only [List.getElem_toArray, List.getElem_cons_zero, List.getElem_cons_succ, Act.put, List.setIfInBounds_toArray, List.set_cons_zero, List.set_cons_succ]
  refine rg_take 47 (.bool true) rfl (by kernel_rfl) (by kernel_rfl) (by kernel_rfl) (fun _ _ _ h => h) rfl (fun w _ => ?_) hS ?_
  · go_simp
  simp only [List.getElem_toArray, List.getElem_cons_zero, List.getElem_cons_succ, Act.put, List.setIfInBounds_toArray, List.set_cons_zero, List.set_cons_succ]
  refine rg_take 48 (.bool true) rfl (by kernel_rfl) (by kernel_rfl) (by kernel_rfl) (fun _ _ _ h => h) rfl (fun w _ => ?_) hS ?_
  · go_simp
  simp only [List.getElem_toArray, List.getElem_cons_zero, List.getElem_cons_succ, Act.put, List.setIfInBounds_toArray, List.set_cons_zero, List.set_cons_succ]
  refine rg_want 49 (.pointer (some ⟨B6, 0, none⟩)) rfl (by kernel_rfl) (by kernel_rfl) (by kernel_rfl) (fun _ _ _ h => h) rfl (fun w _ => ?_) hS ?_
  · go_simp
  simp only [List.getElem_toArray, List.getElem_cons_zero, List.getElem_cons_succ, Act.put, List.setIfInBounds_toArray, List.set_cons_zero, List.set_cons_succ]
  refine rg_want 50 (intV z n) rfl (by kernel_rfl) (by kernel_rfl) (by kernel_rfl) (fun _ _ _ h => h) rfl (fun w hSw => ld_int (.tmp 102) rfl rfl (hSw.rat 0 rfl).num) hS ?_
  simp only [List.getElem_toArray, List.getElem_cons_zero, List.getElem_cons_succ, Act.put, List.setIfInBounds_toArray, List.set_cons_zero, List.set_cons_succ]
  refine rg_want 51 (.pointer (some ⟨S + 1 + 1, 0, none⟩)) rfl (by kernel_rfl) (by kernel_rfl) (by kernel_rfl) (fun _ _ _ h => h) rfl (fun w _ => ?_) hS ?_
  · go_simp
  simp only [List.getElem_toArray, List.getElem_cons_zero, List.getElem_cons_succ, Act.put, List.setIfInBounds_toArray, List.set_cons_zero, List.set_cons_succ]
  refine rg_want 52 (intV s n) rfl (by kernel_rfl) (by kernel_rfl) (by kernel_rfl) (fun _ _ _ h => h) rfl (fun w hSw => ld_int (.tmp 104) rfl rfl (hSw.rat 5 rfl).num) hS ?_
  simp only [List.getElem_toArray, List.getElem_cons_zero, List.getElem_cons_succ, Act.put, List.setIfInBounds_toArray, List.set_cons_zero, List.set_cons_succ]
  refine rg_one 53 (by kernel_rfl) (rs_want rfl rfl (wp_call rfl enters_NegI rfl (HNi.out _) (fun V hV => ⟨hS.below hV, ?_⟩)))
  have hS2 := hS.below hV
  clear hS hV
  have hS := hS2
  clear hS2
  simp only [List.getElem_toArray, List.getElem_cons_zero, List.getElem_cons_succ, Act.put, List.setIfInBounds_toArray, List.set_cons_zero, List.set_cons_succ]
  refine rg_want 54 (.bool true) rfl (by kernel_rfl) (by kernel_rfl) (by kernel_rfl) (fun _ _ _ h => h) rfl (fun w hSw => eqi_run (x := .tmp 103) (y := .tmp 106) (by simp) rfl rfl rfl hn.out hn.out) hS ?_
  simp only [List.getElem_toArray, List.getElem_cons_zero, List.getElem_cons_succ, Act.put, List.setIfInBounds_toArray, List.set_cons_zero, List.set_cons_succ]
  refine rg_take 55 (.bool true) rfl (by kernel_rfl) (by kernel_rfl) (by kernel_rfl) (fun _ _ _ h => h) rfl (fun w _ => ?_) hS ?_
  · go_simp
  simp only [List.getElem_toArray, List.getElem_cons_zero, List.getElem_cons_succ, Act.put, List.setIfInBounds_toArray, List.set_cons_zero, List.set_cons_succ]
  refine rg_take 56 (.bool true) rfl (by kernel_rfl) (by kernel_rfl) (by kernel_rfl) (fun _ _ _ h => h) rfl (fun w _ => ?_) hS ?_
  · go_simp
  simp only [List.getElem_toArray, List.getElem_cons_zero, List.getElem_cons_succ, Act.put, List.setIfInBounds_toArray, List.set_cons_zero, List.set_cons_succ]
  refine rg_one 57 (by kernel_rfl) (rs_want rfl rfl (wp_call rfl enters_works8 rfl (HWk.out _) (fun V hV => ⟨hS.below hV, ?_⟩)))
  have hS2 := hS.below hV
  clear hS hV
  have hS := hS2
  clear hS2
  simp only [List.getElem_toArray, List.getElem_cons_zero, List.getElem_cons_succ, Act.put, List.setIfInBounds_toArray, List.set_cons_zero, List.set_cons_succ]
  refine rg_take 58 (.bool true) rfl (by kernel_rfl) (by kernel_rfl) (by kernel_rfl) (fun _ _ _ h => h) rfl (fun w _ => ?_) hS ?_
  · go_simp
  simp only [List.getElem_toArray, List.getElem_cons_zero, List.getElem_cons_succ, Act.put, List.setIfInBounds_toArray, List.set_cons_zero, List.set_cons_succ]
  refine rg_take 59 (.bool true) rfl (by kernel_rfl) (by kernel_rfl) (by kernel_rfl) (fun _ _ _ h => h) rfl (fun w _ => ?_) hS ?_
  · go_simp
  simp only [List.getElem_toArray, List.getElem_cons_zero, List.getElem_cons_succ, Act.put, List.setIfInBounds_toArray, List.set_cons_zero, List.set_cons_succ]
  refine wpAnyH_done (by kernel_rfl) ?_ _
  have H3 := Lib.hid hS.bl
  clear hS
  go_wp2_with fail
  go_ret
  exact ⟨rfl, H3.out⟩
end Go.Proofs.YtgoemhcngmpfbaaGreatDoor
