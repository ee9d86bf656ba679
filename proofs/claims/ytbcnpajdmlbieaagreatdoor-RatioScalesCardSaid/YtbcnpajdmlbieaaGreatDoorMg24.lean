/-
  Stage 8: the texts of small numbers: what the chapter's example asks.
-/
import Derived.Test.YtbcnpajdmlbieaaGreatDoorMg23

namespace Go.Proofs.YtbcnpajdmlbieaaGreatDoor
open Go.RowKit Go.Sort
set_option linter.unusedSimpArgs false

theorem wpList_load_rat_w {ops : Array Oper} {rest : List Oper} {op : Oper} {a : Act} {w : World} {Q : Exit → Act → World → Prop} (hw : Region.wanted op (yielded ops a.tmps) = true) (x : Operand) (ho : op.op = .load 27 x)
    {b n d : Nat} {s t : Bool} (hx : a.eval x = .pointer (some ⟨b, 0, none⟩)) (h : RatAt w b s n t d)
    (hK : wpList Tryz.prog ops Q rest (a.put op.dst (ratV s n t d)) w) : wpList Tryz.prog ops Q (op :: rest) a w := by
  refine wpList_step fun K hK' => ?_
  rw [if_pos hw]
  unfold Oper.wp
  rw [ld_rat x ho hx h]
  exact hK' _ _ hK
theorem wpList_load_int_w {ops : Array Oper} {rest : List Oper} {op : Oper} {a : Act} {w : World} {Q : Exit → Act → World → Prop} (hw : Region.wanted op (yielded ops a.tmps) = true) (x : Operand) (ho : op.op = .load 25 x)
    {b o n : Nat} {s : Bool} (hx : a.eval x = .pointer (some ⟨b, o, none⟩)) (h : IntO w b o s n)
    (hK : wpList Tryz.prog ops Q rest (a.put op.dst (intV s n)) w) : wpList Tryz.prog ops Q (op :: rest) a w := by
  refine wpList_step fun K hK' => ?_
  rw [if_pos hw]
  unfold Oper.wp
  rw [ld_int x ho hx h]
  exact hK' _ _ hK
theorem eqg_int (op : BinOp) (x y : Operand) (s : Bool) (n : Nat) (t : Bool) (m : Nat) (w : World) : (eqGuard op 25 x y (intV s n) (intV t m)).run Tryz.prog w = .ok () w := by
  unfold intV
  exact run_eqGuard_agg (P := Tryz.prog) w op 25 x y _ _ (by kernel_rfl)
theorem eqg_rat (op : BinOp) (x y : Operand) (s : Bool) (n : Nat) (t : Bool) (d : Nat) (s' : Bool) (n' : Nat) (t' : Bool) (d' : Nat) (w : World) : (eqGuard op 27 x y (ratV s n t d) (ratV s' n' t' d')).run Tryz.prog w = .ok () w := by
  unfold ratV
  exact run_eqGuard_agg (P := Tryz.prog) w op 27 x y _ _ (by kernel_rfl)
theorem wordsV_small {k : Nat} (h : k < 18446744073709551616) : wordsV k = .agg #[.int .u64 (k : Int), .int .u64 0, .int .u64 0, .int .u64 0, .int .u64 0, .int .u64 0, .int .u64 0, .int .u64 0] := by
  obtain ⟨h0, h1, h2, h3, h4, h5, h6, h7⟩ := wd_small' h
  simp only [wordsV, h0, h1, h2, h3, h4, h5, h6, h7, Int.natCast_zero]
/-- The decimal digits of a number, as a string. -/
def decS (n : Nat) : ByteArray := ⟨(Lib.decDigits n).toArray⟩
set_option maxHeartbeats 2000000 in
theorem formatI_small (n : Nat) (hn : n < 100) (w : World) :
    Calls Tryz.prog 99 #[.int .u64 (n : Int), .int .i64 10] w fun e w' => e = .returned (.string (decS n)) ∧ w = w' := by
  have HS := Lib.hid (fun W => Tryz.internal_strconv_small n hn W)
  have h1 : (n : Int) < 100 := by omega
  have h2 : IntKind.i64.wrap (n : Int) = (n : Int) := by rw [IntKind.wrap_i64]; omega
  go_enter Tryz.func99, Tryz.ntmps99
  go_wp2_with fail
  refine (HS.out _).mono ?_
  rintro e w1 ⟨rfl, rfl⟩
  go_wp2_with fail
  go_ret
  exact ⟨rfl, rfl⟩
set_option maxHeartbeats 2000000 in
theorem format_small (n : Nat) (hn : n < 100) (w : World) :
    Calls Tryz.prog 89 #[.int .u64 (n : Int), .int .i64 10] w fun e w' => e = .returned (.string (decS n)) ∧ w = w' := by
  have HS := Lib.hid (fun W => formatI_small n hn W)
  go_enter Tryz.func89, Tryz.ntmps89
  go_wp2_with fail
  refine (HS.out _).mono ?_
  rintro e w1 ⟨rfl, rfl⟩
  go_wp2_with fail
  go_ret
  exact ⟨rfl, rfl⟩
theorem empty_right (s : ByteArray) : s ++ (⟨#[]⟩ : ByteArray) = s := by
  apply ByteArray.ext
  simp [ByteArray.data_append]
theorem decS_small {n : Nat} (h : n < 100) : (decS n).size ≤ 2 := by
  have h1 : (decS n).size = (Lib.decDigits n).length := by simp [decS, ByteArray.size]
  rw [h1, Lib.decDigits]
  split
  · simp
  · rw [Lib.decDigits]
    split
    · simp
    · omega
set_option maxRecDepth 100000 in
set_option maxHeartbeats 4000000 in
theorem decimal_small (n : Nat) (hn : n < 100) (w : World) :
    Calls Tryz.prog 75 #[wordsV n] w fun e w' => e = .returned (.string (decS n)) ∧ Below w.heap.size w w' := by
  have hf1 : Fits n := Nat.lt_of_lt_of_le hn (Nat.le_trans (show 100 ≤ 18446744073709551616 by decide) (Nat.le_self_pow (by decide) _))
  have hf2 : Fits 10000000000000000000 := Nat.lt_of_lt_of_le (show 10000000000000000000 < 18446744073709551616 by decide) (Nat.le_self_pow (by decide) _)
  have HD := fun W => divide_run n 10000000000000000000 W hf1 hf2 (by decide)
  rw [Nat.div_eq_of_lt (Nat.lt_of_lt_of_le hn (by decide)), Nat.mod_eq_of_lt (Nat.lt_of_lt_of_le hn (by decide))] at HD
  rw [wordsV_small (show n < 18446744073709551616 by omega)]
  rw [wordsV_small (show n < 18446744073709551616 by omega), wordsV_small (show 10000000000000000000 < 18446744073709551616 by decide), wordsV_small (show 0 < 18446744073709551616 by decide)] at HD
  have HD := Lib.hid HD
  have HF := Lib.hid (fun W => format_small n hn W)
  have heq := fun W => eqWords 0 0 W (Nat.pow_pos (by decide)) (Nat.pow_pos (by decide))
  rw [decide_eq_true rfl, wordsV_small (show 0 < 18446744073709551616 by decide)] at heq
  simp only [Int.natCast_zero] at HD heq
  have hc : ((10000000000000000000 : Nat) : Int) = 10000000000000000000 := rfl
  rw [hc] at HD
  have HE := Lib.hid (empty_right (decS n))
  have hsz := decS_small hn
  generalize decS n = s at *
  clear hf1 hf2 hc hn
  have HB := Lib.hid (below_alloc w (.cells #[.int .u64 (n : Int), .int .u64 0, .int .u64 0, .int .u64 0, .int .u64 0, .int .u64 0, .int .u64 0, .int .u64 0] 99))
  go_enter Tryz.func75, Tryz.ntmps75
  go_wp2_with fail
  refine wp_loop_rounds 1 ?_
  rw [rounds_succ]
  go_wp2_with fail
  refine (HD.out _).mono ?_
  rintro e w1 ⟨rfl, hw1⟩
  have B1 : Hid (∀ o p : Obj, Below w.heap.size w ((w1.alloc o).alloc p)) := fun o p => ((HB.out.trans (hw1.mono (by simp))).alloc (by have := hw1.size; simp at this; omega) o).alloc (by have := hw1.size; simp at this; simp; omega) p
  clear hw1 HD HB
  go_wp2_with fail
  refine (HF.out _).mono ?_
  rintro e w2 ⟨rfl, rfl⟩
  go_wp2_with fail
  go_ret
  exact ⟨(congrArg (fun x => Ending.returned (.string x)) HE.out : Ending.returned (.string (s ++ ⟨#[]⟩)) = _), B1.out _ _⟩
set_option maxRecDepth 100000 in
set_option maxHeartbeats 4000000 in
theorem Text_small (s : Bool) (n : Nat) (hn : n < 100) (w : World) :
    Calls Tryz.prog 47 #[intV s n] w fun e w' => e = .returned (.string (if sgn s n then (⟨#[45]⟩ : ByteArray) ++ decS n else decS n)) ∧ Below w.heap.size w w' := by
  have hf1 : Hid (Fits n) := Nat.lt_of_lt_of_le hn (Nat.le_trans (show 100 ≤ 18446744073709551616 by decide) (Nat.le_self_pow (by decide) _))
  have HC := Lib.hid (fun W => Canon_run s n W hf1)
  have HD := Lib.hid (fun W => decimal_small n hn W)
  have hsz := decS_small hn
  generalize decS n = x at *
  obtain ⟨z, hz⟩ : ∃ z, sgn s n = z := ⟨_, rfl⟩
  rw [hz] at HC ⊢
  clear hz hf1 hn
  obtain ⟨S, hS⟩ : ∃ S, w.heap.size = S := ⟨_, rfl⟩
  obtain ⟨W, hW⟩ : ∃ W, w.alloc (boxI s n 25) = W := ⟨_, rfl⟩
  have T1 := IntAt.new w s n 25
  have T2 := below_alloc w (boxI s n 25)
  have T3 : (w.alloc (boxI s n 25)).heap.size = w.heap.size + 1 := by simp
  rw [hW] at T1 T2 T3
  rw [hS] at T1 T2 T3 ⊢
  have HT := Lib.hid (And.intro T1 (And.intro T2 T3))
  clear T1 T2 T3
  unfold wordsV at HD
  cases z with
  | true =>
    simp only [if_true]
    go_enter Tryz.func47, Tryz.ntmps47
    go_wp2_with (first | (refine wpList_box_int rfl (.tmp 0) rfl rfl ?_) | (refine wpList_load_int rfl (.tmp 1) rfl rfl HT.out.1.o ?_))
    refine (HC.out _).mono ?_
    rintro e w1 ⟨rfl, hw1⟩
    have hz := HT.out.2.2
    have H1 := Lib.hid (HT.out.1.keep hw1 (by omega))
    have B1 := Lib.hid (HT.out.2.1.trans (hw1.mono (by omega)))
    have H2 := Lib.hid (st9_at (t := true) (m := n) H1.out)
    have B2 := Lib.hid ((st9_but w1 S true n).2.1 S w (by omega) B1.out)
    have z2 : S + 1 ≤ (st9 w1 S true n).heap.size := by rw [(st9_but w1 S true n).2.2]; exact Nat.le_trans (Nat.le_of_eq hz.symm) hw1.size
    clear hw1 HT hW HC hz
    obtain ⟨w2, hw2⟩ : ∃ w2, st9 w1 S true n = w2 := ⟨_, rfl⟩
    rw [hw2] at H2 B2 z2
    have Hw2 := Lib.hid hw2
    obtain ⟨⟨a0, x0⟩, ⟨a1, x1⟩, ⟨a2, x2⟩, ⟨a3, x3⟩, ⟨a4, x4⟩, ⟨a5, x5⟩, ⟨a6, x6⟩, ⟨a7, x7⟩, ⟨a8, x8⟩⟩ := H2.out.nine
    clear x0 x1 x2 x3 x4 x5 x6 x7 x8 hw2
    go_upto_region 2 with (refine wpList_store_int rfl (.tmp 1) (.tmp 4) rfl (b := S) (s := true) (n := n) rfl rfl H1.out ?_)
    rw [Hw2.out]
    clear Hw2
    go_wp2_with fail
    refine (HD.out _).mono ?_
    rintro e w3 ⟨rfl, hw3⟩
    have B3 := Lib.hid (B2.out.trans (hw3.mono (by omega)))
    clear hw3
    go_wp2_with fail
    go_ret
    exact ⟨rfl, B3.out⟩
  | false =>
    simp only [Bool.false_eq_true, if_false]
    go_enter Tryz.func47, Tryz.ntmps47
    go_wp2_with (first | (refine wpList_box_int rfl (.tmp 0) rfl rfl ?_) | (refine wpList_load_int rfl (.tmp 1) rfl rfl HT.out.1.o ?_))
    refine (HC.out _).mono ?_
    rintro e w1 ⟨rfl, hw1⟩
    have hz := HT.out.2.2
    have H1 := Lib.hid (HT.out.1.keep hw1 (by omega))
    have B1 := Lib.hid (HT.out.2.1.trans (hw1.mono (by omega)))
    have H2 := Lib.hid (st9_at (t := false) (m := n) H1.out)
    have B2 := Lib.hid ((st9_but w1 S false n).2.1 S w (by omega) B1.out)
    have z2 : S + 1 ≤ (st9 w1 S false n).heap.size := by rw [(st9_but w1 S false n).2.2]; exact Nat.le_trans (Nat.le_of_eq hz.symm) hw1.size
    clear hw1 HT hW HC hz
    obtain ⟨w2, hw2⟩ : ∃ w2, st9 w1 S false n = w2 := ⟨_, rfl⟩
    rw [hw2] at H2 B2 z2
    have Hw2 := Lib.hid hw2
    obtain ⟨⟨a0, x0⟩, ⟨a1, x1⟩, ⟨a2, x2⟩, ⟨a3, x3⟩, ⟨a4, x4⟩, ⟨a5, x5⟩, ⟨a6, x6⟩, ⟨a7, x7⟩, ⟨a8, x8⟩⟩ := H2.out.nine
    clear x0 x1 x2 x3 x4 x5 x6 x7 x8 hw2
    go_upto_region 2 with (refine wpList_store_int rfl (.tmp 1) (.tmp 4) rfl (b := S) (s := false) (n := n) rfl rfl H1.out ?_)
    rw [Hw2.out]
    clear Hw2
    go_wp2_with fail
    refine (HD.out _).mono ?_
    rintro e w3 ⟨rfl, hw3⟩
    have B3 := Lib.hid (B2.out.trans (hw3.mono (by omega)))
    clear hw3
    go_wp2_with fail
    go_ret
    exact ⟨rfl, B3.out⟩
end Go.Proofs.YtbcnpajdmlbieaaGreatDoor
