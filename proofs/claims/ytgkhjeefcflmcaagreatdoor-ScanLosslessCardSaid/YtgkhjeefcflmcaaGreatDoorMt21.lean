/-
  number's Float.
-/
import Derived.Test.YtgkhjeefcflmcaaGreatDoorMt19
import Derived.Test.YtgkhjeefcflmcaaGreatDoorMt20
import Derived.Test.YtgkhjeefcflmcaaGreatDoorMt08
namespace Go.Proofs.YtgkhjeefcflmcaaGreatDoor
open Go.RowKit Go.Sort
set_option linter.unusedSimpArgs false
def st4 (w : World) (b : Nat) (y0 y1 y2 y3 : ByteArray) : World := pt23 (pt01 w b y0 y1) b y2 y3
theorem infoParts : (Tryz.prog.info? 193).map (·.size) = some 4 := by kernel_rfl
section
variable {w w' : World} {b : Nat} {x0 x1 x2 x3 : ByteArray}
theorem PartsAt.there (h : PartsAt w b x0 x1 x2 x3) : w.there b 0 4 := by
 intro j hj
 rcases j with _ | _ | _ | _ | j
 ·exact ⟨(congrArg Option.isSome h.c0 : (w.cell? ⟨b, 0, none⟩).isSome = _), h.f0⟩
 ·exact ⟨(congrArg Option.isSome h.c1 : (w.cell? ⟨b, 1, none⟩).isSome = _), h.f1⟩
 ·exact ⟨(congrArg Option.isSome h.c2 : (w.cell? ⟨b, 2, none⟩).isSome = _), h.f2⟩
 ·exact ⟨(congrArg Option.isSome h.c3 : (w.cell? ⟨b, 3, none⟩).isSome = _), h.f3⟩
 ·omega
theorem PartsAt.drew (h : PartsAt w b x0 x1 x2 x3) : PartsAt w.drew b x0 x1 x2 x3 := h.below ((Below.refl _ w).drew)
theorem PartsAt.but {c : Nat} (h : PartsAt w b x0 x1 x2 x3) (hw : But1 w w' c) (hne : b ≠ c) : PartsAt w' b x0 x1 x2 x3 :=
 ⟨(hw.1 ⟨b, 0, none⟩ hne).1.trans h.c0, (hw.1 ⟨b, 1, none⟩ hne).1.trans h.c1, (hw.1 ⟨b, 2, none⟩ hne).1.trans h.c2, (hw.1 ⟨b, 3, none⟩ hne).1.trans h.c3,
  (hw.1 ⟨b, 0, none⟩ hne).2.trans h.f0, (hw.1 ⟨b, 1, none⟩ hne).2.trans h.f1, (hw.1 ⟨b, 2, none⟩ hne).2.trans h.f2, (hw.1 ⟨b, 3, none⟩ hne).2.trans h.f3⟩
theorem load_parts (h : PartsAt w b x0 x1 x2 x3) : (loadVar 193 ⟨b, 0, none⟩).run Tryz.prog w = .ok (partsV x0 x1 x2 x3) w := by
 obtain ⟨c0, c1, c2, c3, _, _, _, _⟩ := h
 unfold partsV
 go_simp
end
theorem ld_parts {op : Oper} {a : Act} {w : World} (x : Operand) (ho : op.op = .load 193 x) {b : Nat} {x0 x1 x2 x3 : ByteArray} (hx : a.eval x = .pointer (some ⟨b, 0, none⟩)) (h : PartsAt w b x0 x1 x2 x3) : (execOp a.eval op).run Tryz.prog w = .ok (.value (partsV x0 x1 x2 x3)) w := by
 unfold execOp
 simp only [ho, hx, Instr.loadAt, Instr.sureAddr, Sem.run_bind, Sem.run_pure, Result.andThen_ok, load_parts h]
theorem wpList_store_parts {ops : Array Oper} {rest : List Oper} {op : Oper} {a : Act} {w : World} {Q : Exit → Act → World → Prop} (hgd : op.guard = none) (x y : Operand) (ho : op.op = .store 193 x y)
  {b : Nat} {x0 x1 x2 x3 y0 y1 y2 y3 : ByteArray} (hx : a.eval x = .pointer (some ⟨b, 0, none⟩)) (hy : a.eval y = partsV y0 y1 y2 y3) (h : PartsAt w b x0 x1 x2 x3)
  (hK : wpList Tryz.prog ops Q rest (a.put op.dst undef) (st4 w b y0 y1 y2 y3)) : wpList Tryz.prog ops Q (op :: rest) a w :=
 wpList_store_mid hgd 193 x y ho b 0 #[.string y0, .string y1, .string y2, .string y3] hx hy h.there infoParts (by simp [Value.oneCell']) hK
theorem enters_asR : EntersP Tryz.prog 104 := entersP_of Tryz.func104 (by kernel_rfl) rfl
theorem enters_pow : EntersP Tryz.prog 138 := entersP_of Tryz.func138 (by kernel_rfl) rfl
theorem enters_Scale9 : EntersP Tryz.prog 137 := entersP_of Tryz.func137 (by kernel_rfl) rfl
def FloatIs (l : List UInt8) (y : Q4) : Prop :=
 (¬ FloatOk l ∧ y = ⟨false, 0, 0, 8⟩) ∨
 (FloatOk l ∧ ((parK 10 (ptW l ++ ptF l) = 9 ∧ y = ⟨false, 0, 0, 9⟩) ∨
  (parK 10 (ptW l ++ ptF l) = 0 ∧ ((5 < (ptX l).length ∧ y = ⟨false, 0, 0, 9⟩) ∨
   ((ptX l).length ≤ 5 ∧ scl false (parN 10 (ptW l ++ ptF l)) false 1 10 (powZ (ptS l) (ptX l) - ((ptF l).length : Int)) = y)))))
theorem float_is (l : List UInt8) : ∃ y, FloatIs l y := by
 unfold FloatIs
 by_cases h : FloatOk l
 ·have hk : parK 10 (ptW l ++ ptF l) = 0 ∨ parK 10 (ptW l ++ ptF l) = 9 := by
   have := h.2.2.1
   rw [decB_K, decide_eq_true_eq] at this
   exact this
  rcases hk with hk | hk
  ·by_cases hx : 5 < (ptX l).length
   ·exact ⟨_, .inr ⟨h, .inr ⟨hk, .inl ⟨hx, rfl⟩⟩⟩⟩
   ·exact ⟨_, .inr ⟨h, .inr ⟨hk, .inr ⟨by omega, rfl⟩⟩⟩⟩
  ·exact ⟨_, .inr ⟨h, .inl ⟨hk, rfl⟩⟩⟩
 ·exact ⟨_, .inl ⟨h, rfl⟩⟩
set_option maxRecDepth 100000 in
set_option maxHeartbeats 8000000 in
theorem Float_run (l : List UInt8) (y : Q4) (w : World) (hl : l.length ≤ 10000) (h : Hid (FloatIs l y)) (hm : Hid (Ml w)) :
  Calls Tryz.prog 105 #[.string (bs l)] w fun e w' => e = .returned (.tuple #[ratV y.s y.n false y.d, errV y.k]) ∧ Below w.heap.size w w' := by
 obtain ⟨S, hS⟩ : ∃ S, w.heap.size = S := ⟨_, rfl⟩
 have I0 := (Bs.start w hS).pushRatZ hS 94
 obtain ⟨W0, hW⟩ : ∃ W, w.alloc (boxRZ 94) = W := ⟨_, rfl⟩
 rw [hW] at I0
 have I := Lib.hid I0
 have HM : Hid (∀ V, Below S w V → Ml V) := fun V hb => hm.out.below (by rw [hS]; exact hb)
 clear I0 hm
 rw [hS]
 have hT := unsc_length l
 have lW : (ptW l).length ≤ 10000 := Nat.le_trans (preP_len isP _) (Nat.le_trans (preP_len isM _) (by omega))
 have lF : (ptF l).length ≤ 10000 := Nat.le_trans (postP_len isP _) (Nat.le_trans (preP_len isM _) (by omega))
 obtain ⟨b, hb⟩ : ∃ b : Bool, b = true ↔ FloatOk l := by
  by_cases h : FloatOk l
  ·exact ⟨true, by simp [h]⟩
  ·exact ⟨false, by simp [h]⟩
 have HSP : Hid (∀ V, Ml V → Calls Tryz.prog 136 #[.string (bs l)] V fun e w' => e = .returned (.tuple #[partsV (bs (ptW l)) (bs (ptF l)) (bs (ptS l)) (bs (ptX l)), .bool b]) ∧ Below V.heap.size V w') := fun V hV => split_run l b V hl hb hV
 have hPA : ∀ V, Calls Tryz.prog 133 #[.string (bs (ptW l ++ ptF l)), .int .i64 10] V fun e w' => e = .returned (.tuple #[intV false (parN 10 (ptW l ++ ptF l)), errV (parK 10 (ptW l ++ ptF l))]) ∧ Below V.heap.size V w' := fun V => Parse_bs (ptW l ++ ptF l) 10 V (.inr (.inr (.inl rfl))) (by rw [List.length_append]; omega)
 have hfn := parN_fits 10 (ptW l ++ ptF l)
 have hs3 := ptS_cases l
 clear hT
 rcases h.out with ⟨hno, rfl⟩ | ⟨hok, h⟩
 ·
  obtain rfl : b = false := by
   cases b
   ·rfl
   ·exact absurd (hb.1 rfl) hno
  obtain ⟨Wd, hWd⟩ : ∃ x, ptW l = x := ⟨_, rfl⟩
  obtain ⟨F, hF⟩ : ∃ x, ptF l = x := ⟨_, rfl⟩
  obtain ⟨sg, hsg⟩ : ∃ x, ptS l = x := ⟨_, rfl⟩
  obtain ⟨ex, hex⟩ : ∃ x, ptX l = x := ⟨_, rfl⟩
  rw [hWd, hF, hsg, hex] at HSP
  clear h hb hno hPA hfn hs3 lW lF hWd hF hsg hex
  go_enter Tryz.func105, Tryz.ntmps105
  go_wp2_with fail
  refine (HSP.out _ (HM.out _ I.out.bl)).mono ?_
  rintro e w1 ⟨rfl, hw⟩
  have I1 := Lib.hid (I.out.below hw)
  clear hw I hW
  obtain ⟨P, hP⟩ : ∃ P, w1.heap.size = P := ⟨_, rfl⟩
  have hPS : S < P := by rw [← hP]; exact I1.out.blk_lt (b := S) (by simp [Bx.blk])
  have HZ := PartsAt.new w1 ⟨#[]⟩ ⟨#[]⟩ ⟨#[]⟩ ⟨#[]⟩ 193
  have HZB := below_alloc w1 (.cells #[.string ⟨#[]⟩, .string ⟨#[]⟩, .string ⟨#[]⟩, .string ⟨#[]⟩] 193)
  obtain ⟨w2, hw2⟩ : ∃ x, w1.alloc (.cells #[.string ⟨#[]⟩, .string ⟨#[]⟩, .string ⟨#[]⟩, .string ⟨#[]⟩] 193) = x := ⟨_, rfl⟩
  rw [hw2, hP] at HZ
  rw [hw2] at HZB
  have HP2 : Hid (PartsAt (st4 w2 P (bs Wd) (bs F) (bs sg) (bs ex)) P (bs Wd) (bs F) (bs sg) (bs ex)) := (HZ.put01 _ _).put23 _ _
  have I2 : Hid (Bs w S [.rat S false 0 false 0] (st4 w2 P (bs Wd) (bs F) (bs sg) (bs ex))) := I1.out.below (below_pt23 (below_pt01 HZB (Nat.le_of_eq hP) _ _) (Nat.le_of_eq hP) _ _)
  replace HZ := Lib.hid HZ
  clear HZB
  go_upto_region 2 with (with_reducible refine wpList_store_parts rfl (.tmp 4) (.tmp 11) rfl (b := P) (y0 := bs Wd) (y1 := bs F) (y2 := bs sg) (y3 := bs ex) rfl rfl HZ.out ?_)
  clear HZ hw2 I1
  generalize st4 w2 P (bs Wd) (bs F) (bs sg) (bs ex) = w3 at *
  have HA := Lib.hid (I2.out.rat 0 rfl)
  go_wp2_with (first | (with_reducible refine wpList_val (v := ratV false 0 false 0) rfl (build_zero rfl) ?_) | (with_reducible refine wpList_store_rat rfl (.tmp 2) (.tmp 15) rfl (b := S) (s := false) (n := 0) (t := false) (d := 0) rfl rfl HA.out ?_))
  have I9 := I2.out.putRat 0 rfl false 0 false 0 rfl
  exact bodyPost_ret (v := .tuple #[ratV false 0 false 0, errV 8]) (results_rat rfl rfl rfl (I9.rat 0 rfl)) rfl ⟨rfl, I9.bl⟩
 ·
  obtain rfl : b = true := hb.2 hok
  have hdx := hok.2.2.2
  clear hb
  obtain ⟨Wd, hWd⟩ : ∃ x, ptW l = x := ⟨_, rfl⟩
  obtain ⟨F, hF⟩ : ∃ x, ptF l = x := ⟨_, rfl⟩
  obtain ⟨sg, hsg⟩ : ∃ x, ptS l = x := ⟨_, rfl⟩
  obtain ⟨ex, hex⟩ : ∃ x, ptX l = x := ⟨_, rfl⟩
  rw [hWd, hF, hsg, hex] at HSP
  rw [hWd, hF] at hPA h hfn
  rw [hWd] at lW
  rw [hF] at lF
  rw [hsg] at hs3
  rw [hex] at hdx
  rw [hsg, hex] at h
  have hcat := hcat_bs Wd F
  have sW := bs_size Wd
  have sF := bs_size F
  have sX := bs_size ex
  have hlx : ex.length ≤ 10001 := by
   rw [← hex]
   unfold ptX
   split
   ·exact Nat.le_trans (restL_len _) (Nat.le_trans (postP_len isM _) (Nat.le_trans (unsc_length l) (by omega)))
   ·simp
  clear hWd hF hsg hex hok
  generalize parN 10 (Wd ++ F) = n at *
  generalize parK 10 (Wd ++ F) = k at *
  rcases h with ⟨rfl, rfl⟩ | ⟨rfl, ⟨hx, rfl⟩ | ⟨hx, hy⟩⟩
  ·
   have HPA := Lib.hid hPA
   rw [show errV 9 = .iface 35 (.int .i64 9) from rfl] at HPA
   clear hPA hdx hs3 hfn
   go_enter Tryz.func105, Tryz.ntmps105
   go_wp2_with fail
   refine (HSP.out _ (HM.out _ I.out.bl)).mono ?_
   rintro e w1 ⟨rfl, hw⟩
   have I1 := Lib.hid (I.out.below hw)
   clear hw I hW
   obtain ⟨P, hP⟩ : ∃ P, w1.heap.size = P := ⟨_, rfl⟩
   have hPS : S < P := by rw [← hP]; exact I1.out.blk_lt (b := S) (by simp [Bx.blk])
   have HZ := PartsAt.new w1 ⟨#[]⟩ ⟨#[]⟩ ⟨#[]⟩ ⟨#[]⟩ 193
   have HZB := below_alloc w1 (.cells #[.string ⟨#[]⟩, .string ⟨#[]⟩, .string ⟨#[]⟩, .string ⟨#[]⟩] 193)
   obtain ⟨w2, hw2⟩ : ∃ x, w1.alloc (.cells #[.string ⟨#[]⟩, .string ⟨#[]⟩, .string ⟨#[]⟩, .string ⟨#[]⟩] 193) = x := ⟨_, rfl⟩
   rw [hw2, hP] at HZ
   rw [hw2] at HZB
   have HP2 : Hid (PartsAt (st4 w2 P (bs Wd) (bs F) (bs sg) (bs ex)) P (bs Wd) (bs F) (bs sg) (bs ex)) := (HZ.put01 _ _).put23 _ _
   have I2 : Hid (Bs w S [.rat S false 0 false 0] (st4 w2 P (bs Wd) (bs F) (bs sg) (bs ex))) := I1.out.below (below_pt23 (below_pt01 HZB (Nat.le_of_eq hP) _ _) (Nat.le_of_eq hP) _ _)
   replace HZ := Lib.hid HZ
   clear HZB
   go_upto_region 2 with (with_reducible refine wpList_store_parts rfl (.tmp 4) (.tmp 11) rfl (b := P) (y0 := bs Wd) (y1 := bs F) (y2 := bs sg) (y3 := bs ex) rfl rfl HZ.out ?_)
   clear HZ hw2 I1
   generalize st4 w2 P (bs Wd) (bs F) (bs sg) (bs ex) = w3 at *
   obtain ⟨c0, c1, c2, c3, f0, f1, f2, f3⟩ := HP2.out
   go_wp2_with fail
   refine (HPA.out _).mono ?_
   rintro e w4 ⟨rfl, hw⟩
   have I3 := Lib.hid (I2.out.below hw)
   have HP3 := Lib.hid (HP2.out.below hw)
   clear hw I2 HP2 c0 c1 c2 c3 f0 f1 f2 f3
   obtain ⟨N, hN⟩ : ∃ N, w4.heap.size = N := ⟨_, rfl⟩
   have hPN : P < N := by rw [← hN]; exact HP3.out.lt
   have J4 := I3.out.pushIntZ hN 92
   have JB := below_alloc w4 (boxIZ 92)
   obtain ⟨a1, ha⟩ : ∃ x, w4.alloc (boxIZ 92) = x := ⟨_, rfl⟩
   rw [ha] at J4 JB
   have I4 := Lib.hid J4
   have HI4 := Lib.hid (J4.int 0 rfl)
   have I5 := Lib.hid (J4.putInt 0 rfl false n rfl)
   have HP5 : Hid (PartsAt (st9 a1 N false n) P (bs Wd) (bs F) (bs sg) (bs ex)) := HP3.out.below ((st9_but a1 N false n).2.1 w4.heap.size w4 (Nat.le_of_eq hN) JB)
   clear J4 JB I3 HP3
   go_upto_region 5 with (with_reducible refine wpList_store_int rfl (.tmp 6) (.tmp 24) rfl (b := N) (s := false) (n := n) rfl rfl HI4.out ?_)
   clear HI4 I4 ha
   generalize st9 a1 N false n = w5 at *
   have HA := Lib.hid (I5.out.rat 1 rfl)
   go_wp2_with (first | (with_reducible refine wpList_val (v := ratV false 0 false 0) rfl (build_zero rfl) ?_) | (with_reducible refine wpList_store_rat rfl (.tmp 2) (.tmp 29) rfl (b := S) (s := false) (n := 0) (t := false) (d := 0) rfl rfl HA.out ?_))
   have I9 := I5.out.putRat 1 rfl false 0 false 0 rfl
   exact bodyPost_ret (v := .tuple #[ratV false 0 false 0, errV 9]) (results_rat rfl rfl rfl (I9.rat 1 rfl)) rfl ⟨rfl, I9.bl⟩
  ·
   have HPA := Lib.hid hPA
   rw [show errV 0 = .nilIface from rfl] at HPA
   have hxz : (5 : Int) < (ex.length : Int) := by omega
   clear hPA hdx hs3 hfn hx
   go_enter Tryz.func105, Tryz.ntmps105
   go_wp2_with fail
   refine (HSP.out _ (HM.out _ I.out.bl)).mono ?_
   rintro e w1 ⟨rfl, hw⟩
   have I1 := Lib.hid (I.out.below hw)
   clear hw I hW
   obtain ⟨P, hP⟩ : ∃ P, w1.heap.size = P := ⟨_, rfl⟩
   have hPS : S < P := by rw [← hP]; exact I1.out.blk_lt (b := S) (by simp [Bx.blk])
   have HZ := PartsAt.new w1 ⟨#[]⟩ ⟨#[]⟩ ⟨#[]⟩ ⟨#[]⟩ 193
   have HZB := below_alloc w1 (.cells #[.string ⟨#[]⟩, .string ⟨#[]⟩, .string ⟨#[]⟩, .string ⟨#[]⟩] 193)
   obtain ⟨w2, hw2⟩ : ∃ x, w1.alloc (.cells #[.string ⟨#[]⟩, .string ⟨#[]⟩, .string ⟨#[]⟩, .string ⟨#[]⟩] 193) = x := ⟨_, rfl⟩
   rw [hw2, hP] at HZ
   rw [hw2] at HZB
   have HP2 : Hid (PartsAt (st4 w2 P (bs Wd) (bs F) (bs sg) (bs ex)) P (bs Wd) (bs F) (bs sg) (bs ex)) := (HZ.put01 _ _).put23 _ _
   have I2 : Hid (Bs w S [.rat S false 0 false 0] (st4 w2 P (bs Wd) (bs F) (bs sg) (bs ex))) := I1.out.below (below_pt23 (below_pt01 HZB (Nat.le_of_eq hP) _ _) (Nat.le_of_eq hP) _ _)
   replace HZ := Lib.hid HZ
   clear HZB
   go_upto_region 2 with (with_reducible refine wpList_store_parts rfl (.tmp 4) (.tmp 11) rfl (b := P) (y0 := bs Wd) (y1 := bs F) (y2 := bs sg) (y3 := bs ex) rfl rfl HZ.out ?_)
   clear HZ hw2 I1
   generalize st4 w2 P (bs Wd) (bs F) (bs sg) (bs ex) = w3 at *
   obtain ⟨c0, c1, c2, c3, f0, f1, f2, f3⟩ := HP2.out
   go_wp2_with fail
   refine (HPA.out _).mono ?_
   rintro e w4 ⟨rfl, hw⟩
   have I3 := Lib.hid (I2.out.below hw)
   have HP3 := Lib.hid (HP2.out.below hw)
   clear hw I2 HP2 c0 c1 c2 c3 f0 f1 f2 f3
   obtain ⟨N, hN⟩ : ∃ N, w4.heap.size = N := ⟨_, rfl⟩
   have hPN : P < N := by rw [← hN]; exact HP3.out.lt
   have J4 := I3.out.pushIntZ hN 92
   have JB := below_alloc w4 (boxIZ 92)
   obtain ⟨a1, ha⟩ : ∃ x, w4.alloc (boxIZ 92) = x := ⟨_, rfl⟩
   rw [ha] at J4 JB
   have I4 := Lib.hid J4
   have HI4 := Lib.hid (J4.int 0 rfl)
   have I5 := Lib.hid (J4.putInt 0 rfl false n rfl)
   have HP5 : Hid (PartsAt (st9 a1 N false n) P (bs Wd) (bs F) (bs sg) (bs ex)) := HP3.out.below ((st9_but a1 N false n).2.1 w4.heap.size w4 (Nat.le_of_eq hN) JB)
   clear J4 JB I3 HP3
   go_upto_region 5 with (with_reducible refine wpList_store_int rfl (.tmp 6) (.tmp 24) rfl (b := N) (s := false) (n := n) rfl rfl HI4.out ?_)
   clear HI4 I4 ha
   generalize st9 a1 N false n = w5 at *
   have hc3 := HP5.out.c3
   have HA := Lib.hid (I5.out.rat 1 rfl)
   go_wp2_with (first | (with_reducible refine wpList_val (v := ratV false 0 false 0) rfl (build_zero rfl) ?_) | (with_reducible refine wpList_store_rat rfl (.tmp 2) (.tmp 36) rfl (b := S) (s := false) (n := 0) (t := false) (d := 0) rfl rfl HA.out ?_))
   have I9 := I5.out.putRat 1 rfl false 0 false 0 rfl
   exact bodyPost_ret (v := .tuple #[ratV false 0 false 0, errV 9]) (results_rat rfl rfl rfl (I9.rat 1 rfl)) rfl ⟨rfl, I9.bl⟩
  ·
   have HPA := Lib.hid hPA
   rw [show errV 0 = .nilIface from rfl] at HPA
   have hxz : ¬ (5 : Int) < (ex.length : Int) := by omega
   obtain ⟨z, hz⟩ : ∃ z, powZ sg ex - (F.length : Int) = z := ⟨_, rfl⟩
   have HPO := Lib.hid (fun V => power_run Wd F sg ex z V hs3 hdx hx lF hz)
   rw [hz] at hy
   have HAS := Lib.hid (fun V => asRatio_run false n V)
   have HSC := Lib.hid (fun V => Scale_runP false n false 1 10 z y V hfn (show (1 : Nat) < _ by decide) hy)
   obtain ⟨ys, yn, yd, yk⟩ := y
   obtain ⟨ev, hev⟩ : ∃ v, errV yk = v := ⟨_, rfl⟩
   have HEV := Lib.hid hev
   dsimp only at HSC ⊢
   rw [hev] at HSC
   clear hPA hdx hs3 hfn hx hz hy hev h
   go_enter Tryz.func105, Tryz.ntmps105
   go_wp2_with fail
   refine (HSP.out _ (HM.out _ I.out.bl)).mono ?_
   rintro e w1 ⟨rfl, hw⟩
   have I1 := Lib.hid (I.out.below hw)
   clear hw I hW
   obtain ⟨P, hP⟩ : ∃ P, w1.heap.size = P := ⟨_, rfl⟩
   have hPS : S < P := by rw [← hP]; exact I1.out.blk_lt (b := S) (by simp [Bx.blk])
   have HZ := PartsAt.new w1 ⟨#[]⟩ ⟨#[]⟩ ⟨#[]⟩ ⟨#[]⟩ 193
   have HZB := below_alloc w1 (.cells #[.string ⟨#[]⟩, .string ⟨#[]⟩, .string ⟨#[]⟩, .string ⟨#[]⟩] 193)
   obtain ⟨w2, hw2⟩ : ∃ x, w1.alloc (.cells #[.string ⟨#[]⟩, .string ⟨#[]⟩, .string ⟨#[]⟩, .string ⟨#[]⟩] 193) = x := ⟨_, rfl⟩
   rw [hw2, hP] at HZ
   rw [hw2] at HZB
   have HP2 : Hid (PartsAt (st4 w2 P (bs Wd) (bs F) (bs sg) (bs ex)) P (bs Wd) (bs F) (bs sg) (bs ex)) := (HZ.put01 _ _).put23 _ _
   have I2 : Hid (Bs w S [.rat S false 0 false 0] (st4 w2 P (bs Wd) (bs F) (bs sg) (bs ex))) := I1.out.below (below_pt23 (below_pt01 HZB (Nat.le_of_eq hP) _ _) (Nat.le_of_eq hP) _ _)
   replace HZ := Lib.hid HZ
   clear HZB
   go_upto_region 2 with (with_reducible refine wpList_store_parts rfl (.tmp 4) (.tmp 11) rfl (b := P) (y0 := bs Wd) (y1 := bs F) (y2 := bs sg) (y3 := bs ex) rfl rfl HZ.out ?_)
   clear HZ hw2 I1
   generalize st4 w2 P (bs Wd) (bs F) (bs sg) (bs ex) = w3 at *
   obtain ⟨c0, c1, c2, c3, f0, f1, f2, f3⟩ := HP2.out
   go_wp2_with fail
   refine (HPA.out _).mono ?_
   rintro e w4 ⟨rfl, hw⟩
   have I3 := Lib.hid (I2.out.below hw)
   have HP3 := Lib.hid (HP2.out.below hw)
   clear hw I2 HP2 c0 c1 c2 c3 f0 f1 f2 f3
   obtain ⟨N, hN⟩ : ∃ N, w4.heap.size = N := ⟨_, rfl⟩
   have hPN : P < N := by rw [← hN]; exact HP3.out.lt
   have J4 := I3.out.pushIntZ hN 92
   have JB := below_alloc w4 (boxIZ 92)
   obtain ⟨a1, ha⟩ : ∃ x, w4.alloc (boxIZ 92) = x := ⟨_, rfl⟩
   rw [ha] at J4 JB
   have I4 := Lib.hid J4
   have HI4 := Lib.hid (J4.int 0 rfl)
   have I5 := Lib.hid (J4.putInt 0 rfl false n rfl)
   have HP5 : Hid (PartsAt (st9 a1 N false n) P (bs Wd) (bs F) (bs sg) (bs ex)) := HP3.out.below ((st9_but a1 N false n).2.1 w4.heap.size w4 (Nat.le_of_eq hN) JB)
   clear J4 JB I3 HP3
   go_upto_region 5 with (with_reducible refine wpList_store_int rfl (.tmp 6) (.tmp 24) rfl (b := N) (s := false) (n := n) rfl rfl HI4.out ?_)
   clear HI4 I4 ha
   generalize st9 a1 N false n = w5 at *
   obtain ⟨c0, c1, c2, c3, f0, f1, f2, f3⟩ := HP5.out
   go_upto_region 9 with fail
   clear c0 c1 c2 c3 f0 f1 f2 f3
   refine rg_begin (fun V => PartsAt V P (bs Wd) (bs F) (bs sg) (bs ex) ∧ Bs w S [.int N false n] V) (by kernel_rfl) ⟨HP5.out.drew, I5.out.drew.sub (.cons_cons _ (.cons _ .slnil))⟩ (fun hS => ?_)
   refine rg_take 0 (intV false n) rfl (by kernel_rfl) (by kernel_rfl) (by kernel_rfl) (fun _ _ _ h => h) rfl (fun w hSw => ld_int (.tmp 6) rfl rfl (hSw.2.int 0 rfl).o) hS ?_
   simp only [zA, zB, zC, Act.put, zD, zE, zF]
   refine rg_take 2 (partsV (bs Wd) (bs F) (bs sg) (bs ex)) rfl (by kernel_rfl) (by kernel_rfl) (by kernel_rfl) (fun _ _ _ h => h) rfl (fun w hSw => ld_parts (.tmp 4) rfl rfl hSw.1) hS ?_
   simp only [zA, zB, zC, Act.put, zD, zE, zF]
   have hI := I5.out.drew
   have hQ := HP5.out.drew
   clear I5 HP5 hS
   generalize w5.drew = V0 at *
   refine rg_one 1 (by kernel_rfl) (rs_of rfl rfl (wp_call rfl enters_asR rfl (HAS.out _) (fun V1 hV => ⟨⟨hQ.below hV, (hI.below hV).sub (.cons_cons _ (.cons _ .slnil))⟩, ?_⟩)))
   replace hI := hI.below hV
   replace hQ := hQ.below hV
   clear hV
   simp only [zA, zB, zC, Act.put, zD, zE, zF]
   refine rg_one 3 (by kernel_rfl) (rs_of rfl rfl (wp_call rfl enters_pow rfl (HPO.out _) (fun V2 hV => ⟨⟨hQ.below hV, (hI.below hV).sub (.cons_cons _ (.cons _ .slnil))⟩, ?_⟩)))
   replace hI := hI.below hV
   replace hQ := hQ.below hV
   clear hV
   simp only [zA, zB, zC, Act.put, zD, zE, zF]
   refine rg_one 4 (by kernel_rfl) (rs_of rfl rfl (wp_call rfl enters_Scale9 rfl (HSC.out _) (fun V3 hV => ⟨⟨hQ.below hV, (hI.below hV).sub (.cons_cons _ (.cons _ .slnil))⟩, ?_⟩)))
   replace hI := hI.below hV
   replace hQ := hQ.below hV
   clear hV
   simp only [zA, zB, zC, Act.put, zD, zE, zF]
   have hS : PartsAt V3 P (bs Wd) (bs F) (bs sg) (bs ex) ∧ Bs w S [.int N false n] V3 := ⟨hQ, hI.sub (.cons_cons _ (.cons _ .slnil))⟩
   refine rg_take 5 (ratV ys yn false yd) rfl (by kernel_rfl) (by kernel_rfl) (by kernel_rfl) (fun _ _ _ h => h) rfl (fun w _ => ?_) hS ?_
   ·go_simp
   simp only [zA, zB, zC, Act.put, zD, zE, zF]
   refine rg_take 6 (ev) rfl (by kernel_rfl) (by kernel_rfl) (by kernel_rfl) (fun _ _ _ h => h) rfl (fun w _ => ?_) hS ?_
   ·go_simp
   simp only [zA, zB, zC, Act.put, zD, zE, zF]
   clear hS
   have hJ := hI.putRat 1 rfl ys yn false yd rfl
   have hR := hQ.but (st18_but V3 S ys yn false yd) (by omega)
   have hS : PartsAt (st18 V3 S ys yn false yd) P (bs Wd) (bs F) (bs sg) (bs ex) ∧ Bs w S [.int N false n] (st18 V3 S ys yn false yd) := ⟨hR, hJ.sub (.cons_cons _ (.cons _ .slnil))⟩
   refine rg_one 7 (by kernel_rfl) (rs_of rfl rfl (stores_rat (.tmp 2) (.tmp 43) rfl (s := ys) (n := yn) (t := false) (d := yd) rfl rfl (hI.rat 1 rfl) ⟨hS, ?_⟩))
   simp only [zA, zB, zC, Act.put, zD, zE, zF]
   refine rg_take 8 (ev) rfl (by kernel_rfl) (by kernel_rfl) (by kernel_rfl) (fun _ _ _ h => h) rfl (fun w _ => ?_) hS ?_
   ·go_simp
   simp only [zA, zB, zC, Act.put, zD, zE, zF]
   refine wpAnyH_done (by kernel_rfl) ?_ _
   (try simp only [Exit.inBlock, Exit.then])
   go_wp2_with fail
   refine bodyPost_ret (v := .tuple #[ratV ys yn false yd, ev]) (results_rat rfl rfl rfl (hJ.rat 1 rfl)) rfl ⟨?_, hJ.bl⟩
   rw [← HEV.out]
end Go.Proofs.YtgkhjeefcflmcaaGreatDoor
namespace Go.Proofs.YtgkhjeefcflmcaaGreatDoor
open Go.RowKit Go.Sort
set_option linter.unusedSimpArgs false
def ValueIs (kind : Int) (l : List UInt8) (y : Q4) : Prop :=
 (kind = 2 ∧ ∃ k n, IntIs l k n ∧ ((k ≠ 0 ∧ y = ⟨false, 0, 0, k⟩) ∨ (k = 0 ∧ y = ⟨false, n, 1, 0⟩))) ∨
 (kind = 3 ∧ FloatIs l y) ∨
 (kind ≠ 2 ∧ kind ≠ 3 ∧ y = ⟨false, 0, 0, 11⟩)
theorem value_is (kind : Int) (l : List UInt8) : ∃ y, ValueIs kind l y := by
 unfold ValueIs
 by_cases h2 : kind = 2
 ·obtain ⟨k, n, h⟩ := int_is l
  by_cases hk : k = 0
  ·exact ⟨_, .inl ⟨h2, k, n, h, .inr ⟨hk, rfl⟩⟩⟩
  ·exact ⟨_, .inl ⟨h2, k, n, h, .inl ⟨hk, rfl⟩⟩⟩
 ·by_cases h3 : kind = 3
  ·obtain ⟨y, h⟩ := float_is l
   exact ⟨y, .inr (.inl ⟨h3, h⟩)⟩
  ·exact ⟨_, .inr (.inr ⟨h2, h3, rfl⟩)⟩
set_option maxRecDepth 100000 in
set_option maxHeartbeats 8000000 in
theorem Value_run (kind : Int) (l : List UInt8) (y : Q4) (w : World) (hl : l.length ≤ 10000) (h : Hid (ValueIs kind l y)) (hm : Hid (Ml w)) :
  Calls Tryz.prog 76 #[.int .i64 kind, .string (bs l)] w fun e w' => e = .returned (.tuple #[ratV y.s y.n false y.d, errV y.k]) ∧ Below w.heap.size w w' := by
 obtain ⟨S, hS⟩ : ∃ S, w.heap.size = S := ⟨_, rfl⟩
 have I0 := (Bs.start w hS).pushRatZ hS 94
 obtain ⟨W0, hW⟩ : ∃ W, w.alloc (boxRZ 94) = W := ⟨_, rfl⟩
 rw [hW] at I0
 have I := Lib.hid I0
 have HM : Hid (∀ V, Below S w V → Ml V) := fun V hb => hm.out.below (by rw [hS]; exact hb)
 clear I0 hm
 rw [hS]
 rcases h.out with ⟨rfl, k, n, hi, ⟨hk, rfl⟩ | ⟨rfl, rfl⟩⟩ | ⟨rfl, hf⟩ | ⟨h2, h3, rfl⟩
 ·
  have HI : Hid (∀ V, Ml V → Calls Tryz.prog 103 #[.string (bs l)] V fun e w' => e = .returned (.tuple #[intV false n, .iface 35 (.int .i64 (k : Int))]) ∧ Below V.heap.size V w') := fun V hV => by
   have := Int_run l k n V hl hi hV
   rwa [errV_pos hk] at this
  have HEV : Hid (errV k = .iface 35 (.int .i64 (k : Int))) := errV_pos hk
  clear h hi hk
  go_enter Tryz.func76, Tryz.ntmps76
  go_wp2_with fail
  refine (HI.out _ (HM.out _ I.out.bl)).mono ?_
  rintro e w4 ⟨rfl, hw⟩
  have I3 := Lib.hid (I.out.below hw)
  clear hw I hW
  obtain ⟨N, hN⟩ : ∃ N, w4.heap.size = N := ⟨_, rfl⟩
  have J4 := I3.out.pushIntZ hN 92
  obtain ⟨a1, ha⟩ : ∃ x, w4.alloc (boxIZ 92) = x := ⟨_, rfl⟩
  rw [ha] at J4
  have HI4 := Lib.hid (J4.int 0 rfl)
  have I5 := Lib.hid (J4.putInt 0 rfl false n rfl)
  clear J4 I3
  go_upto_region 4 with (with_reducible refine wpList_store_int rfl (.tmp 6) (.tmp 14) rfl (b := N) (s := false) (n := n) rfl rfl HI4.out ?_)
  clear HI4 ha
  generalize st9 a1 N false n = w5 at *
  have HA := Lib.hid (I5.out.rat 1 rfl)
  go_wp2_with (first | (with_reducible refine wpList_val (v := ratV false 0 false 0) rfl (build_zero rfl) ?_) | (with_reducible refine wpList_store_rat rfl (.tmp 4) (.tmp 18) rfl (b := S) (s := false) (n := 0) (t := false) (d := 0) rfl rfl HA.out ?_))
  have I9 := I5.out.putRat 1 rfl false 0 false 0 rfl
  refine bodyPost_ret (v := .tuple #[ratV false 0 false 0, .iface 35 (.int .i64 (k : Int))]) (results_rat rfl rfl rfl (I9.rat 1 rfl)) rfl ⟨?_, I9.bl⟩
  rw [← HEV.out]
 ·
  have HI : Hid (∀ V, Ml V → Calls Tryz.prog 103 #[.string (bs l)] V fun e w' => e = .returned (.tuple #[intV false n, .nilIface]) ∧ Below V.heap.size V w') := fun V hV => Int_run l 0 n V hl hi hV
  have HAS := Lib.hid (fun V => asRatio_run false n V)
  clear h hi
  go_enter Tryz.func76, Tryz.ntmps76
  go_wp2_with fail
  refine (HI.out _ (HM.out _ I.out.bl)).mono ?_
  rintro e w4 ⟨rfl, hw⟩
  have I3 := Lib.hid (I.out.below hw)
  clear hw I hW
  obtain ⟨N, hN⟩ : ∃ N, w4.heap.size = N := ⟨_, rfl⟩
  have J4 := I3.out.pushIntZ hN 92
  obtain ⟨a1, ha⟩ : ∃ x, w4.alloc (boxIZ 92) = x := ⟨_, rfl⟩
  rw [ha] at J4
  have HI4 := Lib.hid (J4.int 0 rfl)
  have I5 := Lib.hid (J4.putInt 0 rfl false n rfl)
  clear J4 I3
  go_upto_region 4 with (with_reducible refine wpList_store_int rfl (.tmp 6) (.tmp 14) rfl (b := N) (s := false) (n := n) rfl rfl HI4.out ?_)
  clear HI4 ha
  generalize st9 a1 N false n = w5 at *
  have HN := Lib.hid (I5.out.int 0 rfl)
  go_wp2_with (with_reducible refine wpList_load_int rfl (.tmp 6) rfl rfl HN.out.o ?_)
  refine (HAS.out _).mono ?_
  rintro e w6 ⟨rfl, hw⟩
  have I6 := Lib.hid (I5.out.below hw)
  have HA := Lib.hid (I6.out.rat 1 rfl)
  clear hw I5 HN
  go_wp2_with (with_reducible refine wpList_store_rat rfl (.tmp 4) (.tmp 21) rfl (b := S) (s := false) (n := n) (t := false) (d := 1) rfl rfl HA.out ?_)
  have I9 := I6.out.putRat 1 rfl false n false 1 rfl
  exact bodyPost_ret (v := .tuple #[ratV false n false 1, .nilIface]) (results_rat rfl rfl rfl (I9.rat 1 rfl)) rfl ⟨rfl, I9.bl⟩
 ·
  obtain ⟨ys, yn, yd, yk⟩ := y
  obtain ⟨ev, hev⟩ : ∃ v, errV yk = v := ⟨_, rfl⟩
  have HFL : Hid (∀ V, Ml V → Calls Tryz.prog 105 #[.string (bs l)] V fun e w' => e = .returned (.tuple #[ratV ys yn false yd, ev]) ∧ Below V.heap.size V w') := fun V hV => by
   have := Float_run l _ V hl hf hV
   dsimp only at this
   rwa [hev] at this
  have HEV := Lib.hid hev
  dsimp only
  clear h hf hev
  go_enter Tryz.func76, Tryz.ntmps76
  go_wp2_with fail
  refine (HFL.out _ (HM.out _ I.out.bl)).mono ?_
  rintro e w4 ⟨rfl, hw⟩
  have I3 := Lib.hid (I.out.below hw)
  have HA := Lib.hid (I3.out.rat 0 rfl)
  clear hw I hW
  go_wp2_with (with_reducible refine wpList_store_rat rfl (.tmp 4) (.tmp 26) rfl (b := S) (s := ys) (n := yn) (t := false) (d := yd) rfl rfl HA.out ?_)
  have I9 := I3.out.putRat 0 rfl ys yn false yd rfl
  refine bodyPost_ret (v := .tuple #[ratV ys yn false yd, ev]) (results_rat rfl rfl rfl (I9.rat 0 rfl)) rfl ⟨?_, I9.bl⟩
  rw [← HEV.out]
 ·
  have e2 : (kind == 2) = false := beq_eq_false_iff_ne.2 h2
  have e3 : (kind == 3) = false := beq_eq_false_iff_ne.2 h3
  clear h h2 h3
  go_enter Tryz.func76, Tryz.ntmps76
  have HA := Lib.hid (I.out.rat 0 rfl)
  go_wp2_with (first | (with_reducible refine wpList_val (v := ratV false 0 false 0) rfl (build_zero rfl) ?_) | (with_reducible refine wpList_store_rat rfl (.tmp 4) (.tmp 28) rfl (b := S) (s := false) (n := 0) (t := false) (d := 0) rfl rfl HA.out ?_))
  have I9 := I.out.putRat 0 rfl false 0 false 0 rfl
  refine bodyPost_ret (v := .tuple #[ratV false 0 false 0, errV 11]) (results_rat rfl rfl rfl (I9.rat 0 rfl)) rfl ⟨?_, I9.bl⟩
  rfl
end Go.Proofs.YtgkhjeefcflmcaaGreatDoor
namespace Go.Proofs.YtgkhjeefcflmcaaGreatDoor
open Go.RowKit Go.Sort
set_option linter.unusedSimpArgs false
def isKd (c : UInt8) : Bool := ([46, 101, 69] : List UInt8).contains c
theorem indexAny_kd : ∀ t : List UInt8, Lib.indexAny t [46, 101, 69] = gidx isKd t
 | [] => rfl
 | b :: m => by
  have ih := indexAny_kd m
  cases h : isKd b
  ·rw [gidx_miss m h, ← ih]
   show (if ([46, 101, 69] : List UInt8).contains b then _ else _) = _
   rw [show ([46, 101, 69] : List UInt8).contains b = false from h]
   rfl
  ·rw [gidx_hit m h]
   show (if ([46, 101, 69] : List UInt8).contains b then _ else _) = _
   rw [show ([46, 101, 69] : List UInt8).contains b = true from h]
   rfl
theorem contains_kd (t : List UInt8) : Lib.containsAny t [46, 101, 69] = t.any isKd := by
 unfold Lib.containsAny
 rw [indexAny_kd]
 unfold gidx
 cases t.any isKd
 ·rfl
 ·rw [if_pos rfl]
  exact decide_eq_true (Int.natCast_nonneg _)
def kndZ (l : List UInt8) : Int := if pfxB l = 0 ∧ l.any isKd = true then 3 else 2
set_option maxRecDepth 100000 in
set_option maxHeartbeats 4000000 in
theorem kindOf_run (l : List UInt8) (w : World) (hl : l.length ≤ 10000) (ha : ∀ (j : Nat) b, l[j]? = some b → b.toNat < 128) :
  Calls Tryz.prog 75 #[.string (bs l)] w fun e w' => e = .returned (.int .i64 (kndZ l)) ∧ Below w.heap.size w w' := by
 have HC := fun V => cutPrefix_run l V (by omega)
 have HK := fun V => Tryz.strings_ContainsAny_laid (bs l) ⟨#[46, 101, 69]⟩ V (by rw [bs_size]; omega) (by decide) (by rw [bs_list]; exact ha) (fun j b hb => by
  match j, hb with
  | 0, hb => cases hb; decide
  | 1, hb => cases hb; decide
  | 2, hb => cases hb; decide)
 rw [bs_list, show (⟨#[46, 101, 69]⟩ : ByteArray).data.toList = [46, 101, 69] from rfl, contains_kd] at HK
 unfold kndZ
 clear ha
 generalize l.any isKd = v at *
 by_cases hp : pfxB l = 0
 ·rw [hp, if_pos rfl] at HC
  rw [hp]
  replace HC := Lib.hid HC
  replace HK := Lib.hid HK
  clear hp
  cases v
  ·go_enter Tryz.func75, Tryz.ntmps75
   go_wp2_with fail
   refine (HC.out _).mono ?_
   rintro e w1 ⟨rfl, hw⟩
   have HB := Lib.hid hw
   clear hw
   go_wp2_with fail
   refine (HK.out _).mono ?_
   rintro e w2 ⟨rfl, hw⟩
   have HB2 := Lib.hid (HB.out.trans (hw.mono HB.out.size))
   clear hw HB
   go_wp2_with fail
   go_ret
   exact ⟨rfl, HB2.out⟩
  ·go_enter Tryz.func75, Tryz.ntmps75
   go_wp2_with fail
   refine (HC.out _).mono ?_
   rintro e w1 ⟨rfl, hw⟩
   have HB := Lib.hid hw
   clear hw
   go_wp2_with fail
   refine (HK.out _).mono ?_
   rintro e w2 ⟨rfl, hw⟩
   have HB2 := Lib.hid (HB.out.trans (hw.mono HB.out.size))
   clear hw HB
   go_wp2_with fail
   go_ret
   exact ⟨rfl, HB2.out⟩
 ·rw [if_neg hp] at HC
  have hk : Hid ((if pfxB l = 0 ∧ v = true then (3 : Int) else 2) = 2) := if_neg (fun h => hp h.1)
  generalize pfxB l = B at *
  have hBz : ((B : Int) == 0) = false := beq_eq_false_iff_ne.2 (by omega)
  replace HC := Lib.hid HC
  clear hp HK
  rw [hk.out]
  clear hk
  go_enter Tryz.func75, Tryz.ntmps75
  go_wp2_with fail
  refine (HC.out _).mono ?_
  rintro e w1 ⟨rfl, hw⟩
  have HB := Lib.hid hw
  clear hw
  go_wp2_with fail
  go_ret
  exact ⟨rfl, HB.out⟩
def bi (l : List UInt8) : List Int := l.map fun b => (b.toNat : Int)
theorem bi_length (l : List UInt8) : (bi l).length = l.length := List.length_map ..
theorem bi_take (l : List UInt8) (n : Nat) : (bi l).take n = bi (l.take n) := (List.map_take).symm
theorem bi_drop (l : List UInt8) (n : Nat) : (bi l).drop n = bi (l.drop n) := (List.map_drop).symm
theorem bi_str (l : List UInt8) : strOf (bi l) = bs l := by
 unfold strOf strOfNums bi bs
 rw [List.map_map]
 congr 2
 have : ((fun n : Int => UInt8.ofNat n.toNat) ∘ fun b : UInt8 => (b.toNat : Int)) = id := by
  funext b
  simp
 rw [this, List.map_id]
theorem byts_cell {w : World} {B b o : Nat} {l : List UInt8} (h : Byts w B (some ⟨b, o, none⟩) (bi l)) {i : Nat} {c : UInt8} (hc : l[i]? = some c) : w.cell? ⟨b, o + i, none⟩ = some (.int .u8 (c.toNat : Int)) := by
 obtain ⟨b', o', e, _, hq⟩ := h.2 (by rw [bi_length]; exact Nat.lt_of_le_of_lt (Nat.zero_le _) (List.getElem?_eq_some_iff.1 hc).1)
 cases e
 refine hq i _ ?_
 unfold bi
 rw [List.getElem?_map, hc]
 rfl
theorem eq46 {a : UInt8} : ((a.toNat : Int) == 46) = decide (a = 46) := by
 rw [Bool.eq_iff_iff]
 simp only [beq_iff_eq, decide_eq_true_eq]
 constructor
 ·intro h
  exact UInt8.toNat_inj.1 (by show a.toNat = 46; omega)
 ·rintro rfl; rfl
def begL : List UInt8 → Bool
 | [] => false
 | c :: m => isDig c.toNat || (c == 46 && (match m with | [] => false | d :: _ => isDig d.toNat))
set_option maxRecDepth 100000 in
set_option maxHeartbeats 4000000 in
theorem begins_runN (b o n cap : Nat) (l : List UInt8) (w : World) (B : Nat) (hb : Byts w B (some ⟨b, o, none⟩) (bi l)) (hn : l.length = n) (_hcap : n ≤ cap) (h0 : 0 < n) :
  Calls Tryz.prog 73 #[.slice (some ⟨b, o, none⟩) n cap] w fun e w' => e = .returned (.bool (begL l)) ∧ w' = w := by
 match l, hb, hn with
 | [], _, hn => simp at hn; omega
 | c :: m, hb, hn =>
  have hc0 := byts_cell hb (i := 0) (c := c) rfl
  rw [Nat.add_zero] at hc0
  by_cases hu : c = 46
  ·subst hu
   have hc46 : w.cell? ⟨b, o, none⟩ = some (.int .u8 46) := hc0
   have H1 : Hid (∀ W, Calls Tryz.prog 98 #[.int .i64 1, .int .u8 46] W fun e w' => e = .returned (.bool false) ∧ w' = W) := fun W => has1_run 46 (by decide) W
   clear hc0
   match m, hb, hn with
   | [], hb, hn =>
    have h1z : ¬ (1 : Int) < (n : Int) := by simp at hn; omega
    clear hb hn
    go_enter Tryz.func73, Tryz.ntmps73
    go_wp2_with fail
    refine (H1.out _).mono ?_
    rintro e w1 ⟨rfl, rfl⟩
    go_wp2_with fail
    go_ret
    exact ⟨rfl, rfl⟩
   | d :: r, hb, hn =>
    have h1z : (1 : Int) < (n : Int) := by simp at hn; omega
    have h1n : 1 < n := by simp at hn; omega
    have hc1 := byts_cell hb (i := 1) (c := d) rfl
    have H2 := Lib.hid (fun W => has1_run d.toNat (UInt8.toNat_lt d) W)
    have hr : Hid (begL (46 :: d :: r) = isDig d.toNat) := rfl
    rw [hr.out]
    clear hb hn hr
    generalize isDig d.toNat = v at *
    generalize d.toNat = dn at *
    cases v <;>
    ·go_enter Tryz.func73, Tryz.ntmps73
     go_wp2_with fail
     refine (H1.out _).mono ?_
     rintro e w1 ⟨rfl, rfl⟩
     go_wp2_with fail
     refine (H2.out _).mono ?_
     rintro e w1 ⟨rfl, rfl⟩
     go_wp2_with fail
     go_ret
     exact ⟨rfl, rfl⟩
  ·have e46 : ((c.toNat : Int) == 46) = false := by rw [eq46]; exact decide_eq_false hu
   have H1 := Lib.hid (fun W => has1_run c.toNat (UInt8.toNat_lt c) W)
   have hr : Hid (begL (c :: m) = isDig c.toNat) := by
    show (isDig c.toNat || (c == 46 && _)) = _
    rw [show (c == 46) = false from beq_eq_false_iff_ne.2 hu, Bool.false_and, Bool.or_false]
   rw [hr.out]
   clear hb hn hr hu
   generalize isDig c.toNat = v at *
   generalize c.toNat = cn at *
   cases v <;>
   ·go_enter Tryz.func73, Tryz.ntmps73
    go_wp2_with fail
    refine (H1.out _).mono ?_
    rintro e w1 ⟨rfl, rfl⟩
    go_wp2_with fail
    go_ret
    exact ⟨rfl, rfl⟩
end Go.Proofs.YtgkhjeefcflmcaaGreatDoor
