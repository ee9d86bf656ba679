/-
  Stage 8: the texts of small numbers: what the chapter's example asks.
-/
import Derived.Test.YtgoemhcngmpfbaaGreatDoorMg16
import Derived.Test.YtgoemhcngmpfbaaGreatDoorMg01
import Derived.Lib.ItoaMem
import Derived.Lib.AppendIntMem
import Derived.Test.YtgoemhcngmpfbaaGreatDoorRows
import Derived.Test.YtgoemhcngmpfbaaGreatDoorMg11

namespace Go.Proofs.YtgoemhcngmpfbaaGreatDoor
open Go.RowKit Go.Sort
set_option linter.unusedSimpArgs false

theorem wpList_load_rat_w {ops : Array Oper} {rest : List Oper} {op : Oper} {a : Act} {w : World} {Q : Exit → Act → World → Prop} (hw : Region.wanted op (yielded ops a.tmps) = true) (x : Operand) (ho : op.op = .load 27 x)
    {b n d : Nat} {s t : Bool} (hx : a.eval x = .pointer (some ⟨b, 0, none⟩)) (h : RatAt w b s n t d)
    (hK : wpList Tryz.prog ops Q rest (a.put op.dst (ratV s n t d)) w) : wpList Tryz.prog ops Q (op :: rest) a w := by
  refine wpList_step fun K hK' => ?_
  rw [if_pos hw]
  unfold Oper.wp
  rw [ld_rat x ho hx h]
  exact hK' _ _ hK
theorem wpList_load_int_w {ops : Array Oper} {rest : List Oper} {op : Oper} {a : Act} {w : World} {Q : Exit → Act → World → Prop} (hw : Region.wanted op (yielded ops a.tmps) = true) (x : Operand) (ho : op.op = .load 25 x)
    {b o n : Nat} {s : Bool} (hx : a.eval x = .pointer (some ⟨b, o, none⟩)) (h : IntO w b o s n)
    (hK : wpList Tryz.prog ops Q rest (a.put op.dst (intV s n)) w) : wpList Tryz.prog ops Q (op :: rest) a w := by
  refine wpList_step fun K hK' => ?_
  rw [if_pos hw]
  unfold Oper.wp
  rw [ld_int x ho hx h]
  exact hK' _ _ hK
theorem eqg_int (op : BinOp) (x y : Operand) (s : Bool) (n : Nat) (t : Bool) (m : Nat) (w : World) : (eqGuard op 25 x y (intV s n) (intV t m)).run Tryz.prog w = .ok () w := by
  unfold intV
  exact run_eqGuard_agg (P := Tryz.prog) w op 25 x y _ _ (by kernel_rfl)
theorem eqg_rat (op : BinOp) (x y : Operand) (s : Bool) (n : Nat) (t : Bool) (d : Nat) (s' : Bool) (n' : Nat) (t' : Bool) (d' : Nat) (w : World) : (eqGuard op 27 x y (ratV s n t d) (ratV s' n' t' d')).run Tryz.prog w = .ok () w := by
  unfold ratV
  exact run_eqGuard_agg (P := Tryz.prog) w op 27 x y _ _ (by kernel_rfl)
theorem wordsV_small {k : Nat} (h : k < 18446744073709551616) : wordsV k = .agg #[.int .u64 (k : Int), .int .u64 0, .int .u64 0, .int .u64 0, .int .u64 0, .int .u64 0, .int .u64 0, .int .u64 0] := by
  obtain ⟨h0, h1, h2, h3, h4, h5, h6, h7⟩ := wd_small' h
  simp only [wordsV, h0, h1, h2, h3, h4, h5, h6, h7, Int.natCast_zero]
/-- The decimal digits of a number, as a string. -/
def decS (n : Nat) : ByteArray := ⟨(Lib.decDigits n).toArray⟩
set_option maxHeartbeats 2000000 in
theorem formatI_small (n : Nat) (hn : n < 100) (w : World) :
    Calls Tryz.prog 143 #[.int .u64 (n : Int), .int .i64 10] w fun e w' => e = .returned (.string (decS n)) ∧ w = w' := by
  have HS := Lib.hid (fun W => Tryz.internal_strconv_small n hn W)
  have h1 : (n : Int) < 100 := by omega
  have h2 : IntKind.i64.wrap (n : Int) = (n : Int) := by rw [IntKind.wrap_i64]; omega
  go_enter Tryz.func143, Tryz.ntmps143
  go_wp2_with fail
  refine (HS.out _).mono ?_
  rintro e w1 ⟨rfl, rfl⟩
  go_wp2_with fail
  go_ret
  exact ⟨rfl, rfl⟩
set_option maxHeartbeats 2000000 in
theorem format_small (n : Nat) (hn : n < 100) (w : World) :
    Calls Tryz.prog 116 #[.int .u64 (n : Int), .int .i64 10] w fun e w' => e = .returned (.string (decS n)) ∧ w = w' := by
  have HS := Lib.hid (fun W => formatI_small n hn W)
  go_enter Tryz.func116, Tryz.ntmps116
  go_wp2_with fail
  refine (HS.out _).mono ?_
  rintro e w1 ⟨rfl, rfl⟩
  go_wp2_with fail
  go_ret
  exact ⟨rfl, rfl⟩
theorem empty_right (s : ByteArray) : s ++ (⟨#[]⟩ : ByteArray) = s := by
  apply ByteArray.ext
  simp [ByteArray.data_append]
theorem decS_small {n : Nat} (h : n < 100) : (decS n).size ≤ 2 := by
  have h1 : (decS n).size = (Lib.decDigits n).length := by simp [decS, ByteArray.size]
  rw [h1, Lib.decDigits]
  split
  · simp
  · rw [Lib.decDigits]
    split
    · simp
    · omega
set_option maxRecDepth 100000 in
set_option maxHeartbeats 4000000 in
theorem decimal_small (n : Nat) (hn : n < 100) (w : World) :
    Calls Tryz.prog 73 #[wordsV n] w fun e w' => e = .returned (.string (decS n)) ∧ Below w.heap.size w w' := by
  have hf1 : Fits n := Nat.lt_of_lt_of_le hn (Nat.le_trans (show 100 ≤ 18446744073709551616 by decide) (Nat.le_self_pow (by decide) _))
  have hf2 : Fits 10000000000000000000 := Nat.lt_of_lt_of_le (show 10000000000000000000 < 18446744073709551616 by decide) (Nat.le_self_pow (by decide) _)
  have HD := fun W => divide_run n 10000000000000000000 W hf1 hf2 (by decide)
  rw [Nat.div_eq_of_lt (Nat.lt_of_lt_of_le hn (by decide)), Nat.mod_eq_of_lt (Nat.lt_of_lt_of_le hn (by decide))] at HD
  rw [wordsV_small (show n < 18446744073709551616 by omega)]
  rw [wordsV_small (show n < 18446744073709551616 by omega), wordsV_small (show 10000000000000000000 < 18446744073709551616 by decide), wordsV_small (show 0 < 18446744073709551616 by decide)] at HD
  have HD := Lib.hid HD
  have HF := Lib.hid (fun W => format_small n hn W)
  have heq := fun W => eqWords 0 0 W (Nat.pow_pos (by decide)) (Nat.pow_pos (by decide))
  rw [decide_eq_true rfl, wordsV_small (show 0 < 18446744073709551616 by decide)] at heq
  simp only [Int.natCast_zero] at HD heq
  have hc : ((10000000000000000000 : Nat) : Int) = 10000000000000000000 := rfl
  rw [hc] at HD
  have HE := Lib.hid (empty_right (decS n))
  have hsz := decS_small hn
  generalize decS n = s at *
  clear hf1 hf2 hc hn
  have HB := Lib.hid (below_alloc w (.cells #[.int .u64 (n : Int), .int .u64 0, .int .u64 0, .int .u64 0, .int .u64 0, .int .u64 0, .int .u64 0, .int .u64 0] 119))
  go_enter Tryz.func73, Tryz.ntmps73
  go_wp2_with fail
  refine wp_loop_rounds 1 ?_
  rw [rounds_succ]
  go_wp2_with fail
  refine (HD.out _).mono ?_
  rintro e w1 ⟨rfl, hw1⟩
  have B1 : Hid (∀ o p : Obj, Below w.heap.size w ((w1.alloc o).alloc p)) := fun o p => ((HB.out.trans (hw1.mono (by simp))).alloc (by have := hw1.size; simp at this; omega) o).alloc (by have := hw1.size; simp at this; simp; omega) p
  clear hw1 HD HB
  go_wp2_with fail
  refine (HF.out _).mono ?_
  rintro e w2 ⟨rfl, rfl⟩
  go_wp2_with fail
  go_ret
  exact ⟨(congrArg (fun x => Ending.returned (.string x)) HE.out : Ending.returned (.string (s ++ ⟨#[]⟩)) = _), B1.out _ _⟩
set_option maxRecDepth 100000 in
set_option maxHeartbeats 4000000 in
theorem Text_small (s : Bool) (n : Nat) (hn : n < 100) (w : World) :
    Calls Tryz.prog 33 #[intV s n] w fun e w' => e = .returned (.string (if sgn s n then (⟨#[45]⟩ : ByteArray) ++ decS n else decS n)) ∧ Below w.heap.size w w' := by
  have hf1 : Hid (Fits n) := Nat.lt_of_lt_of_le hn (Nat.le_trans (show 100 ≤ 18446744073709551616 by decide) (Nat.le_self_pow (by decide) _))
  have HC := Lib.hid (fun W => Canon_run s n W hf1)
  have HD := Lib.hid (fun W => decimal_small n hn W)
  have hsz := decS_small hn
  generalize decS n = x at *
  obtain ⟨z, hz⟩ : ∃ z, sgn s n = z := ⟨_, rfl⟩
  rw [hz] at HC ⊢
  clear hz hf1 hn
  obtain ⟨S, hS⟩ : ∃ S, w.heap.size = S := ⟨_, rfl⟩
  obtain ⟨W, hW⟩ : ∃ W, w.alloc (boxI s n 25) = W := ⟨_, rfl⟩
  have T1 := IntAt.new w s n 25
  have T2 := below_alloc w (boxI s n 25)
  have T3 : (w.alloc (boxI s n 25)).heap.size = w.heap.size + 1 := by simp
  rw [hW] at T1 T2 T3
  rw [hS] at T1 T2 T3 ⊢
  have HT := Lib.hid (And.intro T1 (And.intro T2 T3))
  clear T1 T2 T3
  unfold wordsV at HD
  cases z with
  | true =>
    simp only [if_true]
    go_enter Tryz.func33, Tryz.ntmps33
    go_wp2_with (first | (refine wpList_box_int rfl (.tmp 0) rfl rfl ?_) | (refine wpList_load_int rfl (.tmp 1) rfl rfl HT.out.1.o ?_))
    refine (HC.out _).mono ?_
    rintro e w1 ⟨rfl, hw1⟩
    have hz := HT.out.2.2
    have H1 := Lib.hid (HT.out.1.keep hw1 (by omega))
    have B1 := Lib.hid (HT.out.2.1.trans (hw1.mono (by omega)))
    have H2 := Lib.hid (st9_at (t := true) (m := n) H1.out)
    have B2 := Lib.hid ((st9_but w1 S true n).2.1 S w (by omega) B1.out)
    have z2 : S + 1 ≤ (st9 w1 S true n).heap.size := by rw [(st9_but w1 S true n).2.2]; exact Nat.le_trans (Nat.le_of_eq hz.symm) hw1.size
    clear hw1 HT hW HC hz
    obtain ⟨w2, hw2⟩ : ∃ w2, st9 w1 S true n = w2 := ⟨_, rfl⟩
    rw [hw2] at H2 B2 z2
    have Hw2 := Lib.hid hw2
    obtain ⟨⟨a0, x0⟩, ⟨a1, x1⟩, ⟨a2, x2⟩, ⟨a3, x3⟩, ⟨a4, x4⟩, ⟨a5, x5⟩, ⟨a6, x6⟩, ⟨a7, x7⟩, ⟨a8, x8⟩⟩ := H2.out.nine
    clear x0 x1 x2 x3 x4 x5 x6 x7 x8 hw2
    go_upto_region 2 with (refine wpList_store_int rfl (.tmp 1) (.tmp 4) rfl (b := S) (s := true) (n := n) rfl rfl H1.out ?_)
    rw [Hw2.out]
    clear Hw2
    go_wp2_with fail
    refine (HD.out _).mono ?_
    rintro e w3 ⟨rfl, hw3⟩
    have B3 := Lib.hid (B2.out.trans (hw3.mono (by omega)))
    clear hw3
    go_wp2_with fail
    go_ret
    exact ⟨rfl, B3.out⟩
  | false =>
    simp only [Bool.false_eq_true, if_false]
    go_enter Tryz.func33, Tryz.ntmps33
    go_wp2_with (first | (refine wpList_box_int rfl (.tmp 0) rfl rfl ?_) | (refine wpList_load_int rfl (.tmp 1) rfl rfl HT.out.1.o ?_))
    refine (HC.out _).mono ?_
    rintro e w1 ⟨rfl, hw1⟩
    have hz := HT.out.2.2
    have H1 := Lib.hid (HT.out.1.keep hw1 (by omega))
    have B1 := Lib.hid (HT.out.2.1.trans (hw1.mono (by omega)))
    have H2 := Lib.hid (st9_at (t := false) (m := n) H1.out)
    have B2 := Lib.hid ((st9_but w1 S false n).2.1 S w (by omega) B1.out)
    have z2 : S + 1 ≤ (st9 w1 S false n).heap.size := by rw [(st9_but w1 S false n).2.2]; exact Nat.le_trans (Nat.le_of_eq hz.symm) hw1.size
    clear hw1 HT hW HC hz
    obtain ⟨w2, hw2⟩ : ∃ w2, st9 w1 S false n = w2 := ⟨_, rfl⟩
    rw [hw2] at H2 B2 z2
    have Hw2 := Lib.hid hw2
    obtain ⟨⟨a0, x0⟩, ⟨a1, x1⟩, ⟨a2, x2⟩, ⟨a3, x3⟩, ⟨a4, x4⟩, ⟨a5, x5⟩, ⟨a6, x6⟩, ⟨a7, x7⟩, ⟨a8, x8⟩⟩ := H2.out.nine
    clear x0 x1 x2 x3 x4 x5 x6 x7 x8 hw2
    go_upto_region 2 with (refine wpList_store_int rfl (.tmp 1) (.tmp 4) rfl (b := S) (s := false) (n := n) rfl rfl H1.out ?_)
    rw [Hw2.out]
    clear Hw2
    go_wp2_with fail
    refine (HD.out _).mono ?_
    rintro e w3 ⟨rfl, hw3⟩
    have B3 := Lib.hid (B2.out.trans (hw3.mono (by omega)))
    clear hw3
    go_wp2_with fail
    go_ret
    exact ⟨rfl, B3.out⟩
end Go.Proofs.YtgoemhcngmpfbaaGreatDoor

/-
  strconv.FormatUint at base 10, for every word: its decimal digits.
-/
namespace Go.Proofs.YtgoemhcngmpfbaaGreatDoor
open Go.RowKit Go.Sort
set_option linter.unusedSimpArgs false

/-- strconv's table of powers of ten, as it is laid at the start. -/
def Tab (w : World) : Prop := Lib.TabIs Tryz.prog w "internal/strconv.uint64pow10" .u64 Lib.pow10Tab
theorem tab_glob : Tryz.prog.globalNamed "internal/strconv.uint64pow10" = some 5 := by kernel_rfl
theorem Tab.below {w w' : World} (h : Tab w) (hb : Below w.heap.size w w') : Tab w' := by
  unfold Tab Lib.TabIs World.var? at h ⊢
  rw [tab_glob] at h ⊢
  simp only [Option.bind_some] at h ⊢
  have hlt : 5 < w.heap.size := by
    rcases Nat.lt_or_ge 5 w.heap.size with h' | h'
    · exact h'
    · rw [Array.getElem?_eq_none h'] at h; cases h
  rw [hb.block _ hlt]
  exact h
set_option maxHeartbeats 4000000 in
set_option maxRecDepth 100000 in
theorem formatI_run (u : Nat) (hu64 : u < 18446744073709551616) (w : World) (ht : Hid (Tab w)) :
    Calls Tryz.prog 143 #[.int .u64 (u : Int), .int .i64 10] w fun e w' => e = .returned (.string (decS u)) ∧ Below w.heap.size w w' := by
  by_cases hs : u < 100
  · exact (formatI_small u hs w).mono fun e w' h => ⟨h.1, by rw [← h.2]; exact Below.refl _ _⟩
  · have hu1 : 1 ≤ u := by omega
    have hnd20 : Lib.nDigits u ≤ 20 := by have := Lib.numDigits_eq u hu1 hu64; split at this <;> omega
    have hal : Tryz.prog.arrayLen 217 = 24 := by kernel_rfl
    have hsl : ∀ W, (Instr.sliceAt 217 (.pointer (some ⟨w.heap.size, 0, none⟩)) none (some (.int .i64 (Lib.nDigits u : Int))) none).run Tryz.prog W = .ok (.slice (some ⟨w.heap.size, 0, none⟩) (Lib.nDigits u) 24) W := fun W => by
      rw [run_sliceAt_array_h W 217 ⟨w.heap.size, 0, none⟩ (by kernel_rfl) .i64 (Lib.nDigits u : Int) (by omega) (by rw [hal]; omega)]
      go_simp
    have hH0 := Lib.holds_zero0 w 217 (Lib.nDigits u) (by omega)
    have hfmt := Tryz.internal_strconv_formatBase10 w.heap.size 0 24 u (Array.replicate (Lib.nDigits u) 0) (w.alloc (.cells Lib.zeros24 217)) hH0 (by rw [Array.size_replicate]; exact Lib.lt_pow_nDigits u) hu64 (by rw [Array.size_replicate]; omega)
    rw [Array.size_replicate] at hfmt
    have HN := Lib.hid (Tryz.internal_strconv_numDigits u hu1 hu64 (w.alloc (.cells Lib.zeros24 217)) (Lib.tabIs_alloc ht.out _))
    have HF := Lib.hid hfmt
    have HH0 := Lib.hid hH0
    have iu : ¬ ((u : Int) < 100) := by omega
    clear hH0 hal hfmt
    go_enter Tryz.func143, Tryz.ntmps143
    go_wp2_with fail
    refine (HN.out).mono ?_
    rintro e w1 ⟨rfl, rfl⟩
    go_wp2_with fail
    refine (HF.out).mono ?_
    rintro e w2 ⟨rfl, k, v', dk, rfl, hF⟩
    obtain ⟨os, eo⟩ := Lib.fin_at w (.cells Lib.zeros24 217) dk k 0
    have HB : Hid (Below w.heap.size w ((putRow (fun (b : UInt8) => Value.int .u8 (b.toNat : Int)) (w.alloc (.cells Lib.zeros24 217)) w.heap.size 0 dk).drewN k)) := by
      show Below _ _ _
      rw [eo]
      exact Lib.below_grow _ _ (Nat.le_refl _) _ _
    have hcv : (convert 48 9 (.slice (some ⟨w.heap.size, 0, none⟩) (Lib.nDigits u) 24)).run Tryz.prog ((putRow (fun (b : UInt8) => Value.int .u8 (b.toNat : Int)) (w.alloc (.cells Lib.zeros24 217)) w.heap.size 0 dk).drewN k) = .ok (.string (decS u)) ((putRow (fun (b : UInt8) => Value.int .u8 (b.toNat : Int)) (w.alloc (.cells Lib.zeros24 217)) w.heap.size 0 dk).drewN k) := by
      have h := run_convert_bytes_back (P := Tryz.prog) ((putRow (fun (b : UInt8) => Value.int .u8 (b.toNat : Int)) (w.alloc (.cells Lib.zeros24 217)) w.heap.size 0 dk).drewN k) 48 9 5 ⟨w.heap.size, 0, none⟩ 24 (Lib.decDigits u) Tryz.underlying48 Tryz.underlying5 Tryz.underlying9 (fun j hj => by
        rw [Lib.row_is_numeral hF j hj, Lib.add_plain, World.cell?_drewN]
        exact cell?_putRow (fun (b : UInt8) => Value.int .u8 (b.toNat : Int)) _ w.heap.size 0 _ dk HH0.out (by rw [hF.size, Array.size_replicate]) j (by rw [hF.size]; rw [Lib.decDigits_length] at hj; exact hj))
      rw [Lib.decDigits_length] at h
      exact h
    generalize (putRow (fun (b : UInt8) => Value.int .u8 (b.toNat : Int)) (w.alloc (.cells Lib.zeros24 217)) w.heap.size 0 dk).drewN k = w2 at *
    clear eo hF HH0 HN HF
    go_wp2_with fail
    go_ret
    exact ⟨rfl, HB.out⟩
set_option maxHeartbeats 2000000 in
theorem format_run (u : Nat) (hu64 : u < 18446744073709551616) (w : World) (ht : Hid (Tab w)) :
    Calls Tryz.prog 116 #[.int .u64 (u : Int), .int .i64 10] w fun e w' => e = .returned (.string (decS u)) ∧ Below w.heap.size w w' := by
  have HS := Lib.hid (formatI_run u hu64 w ht)
  go_enter Tryz.func116, Tryz.ntmps116
  go_wp2_with fail
  refine (HS.out).mono ?_
  rintro e w1 ⟨rfl, hw1⟩
  have HB := Lib.hid hw1
  clear hw1
  go_wp2_with fail
  go_ret
  exact ⟨rfl, HB.out⟩
end Go.Proofs.YtgoemhcngmpfbaaGreatDoor

/-
  What the rows of stage 9's seat need: the table of powers of ten out of the rows' conditions; a number that came in by value.
-/
namespace Go.Proofs.YtgoemhcngmpfbaaGreatDoor
open Go.ChangeShapes Go.WideShapes Go.ChangeAt Go.RowKit Go.Deep

theorem laidMet_tl {P : Program} {W : World} {x : String × DataW Unit} {rest : List (String × DataW Unit)} (h : laidMet P (x :: rest) W) : laidMet P rest W := by
  obtain ⟨ps, ⟨g', t', cs, fuel, p, q, hg', ht', hvar, hd, hr, rfl⟩, hnd, hall⟩ := h
  exact ⟨q, hr, (List.nodup_append.1 hnd).2.1, fun b off hm => hall b off (List.mem_append_right _ hm)⟩
theorem tPow : (Tryz.prog.globals[5]?).map (·.type) = some 231 := by kernel_rfl
theorem pow_list : Lib.pow10Tab = [1, 10, 100, 1000, 10000, 100000, 1000000, 10000000, 100000000, 1000000000, 10000000000, 100000000000, 1000000000000, 10000000000000, 100000000000000, 1000000000000000, 10000000000000000, 100000000000000000, 1000000000000000000, 10000000000000000000] := by decide +kernel
theorem tab_of {W : World} {rest : List (String × DataW Unit)} (h : laidMet Tryz.prog (("internal/strconv.uint64pow10", Rows.laid_internal_strconv_uint64pow10) :: rest) W) : Tab W := by
  have h' : laidMet Tryz.prog (("internal/strconv.uint64pow10", Lib.tabData .u64 Lib.pow10Tab) :: rest) W := by
    rw [pow_list]
    exact h
  exact Lib.tabIs_of_head tab_glob tPow Tryz.underlying231 Tryz.underlying22 (by kernel_rfl) (by kernel_rfl) h'
/-- The variables that the row of RatioMakes lists. -/
def laid9 : List (String × DataW Unit) := Rows.ratioMakesRow.laid
theorem door_met9 (os : Os) (args : Array Value) : laidMetH Tryz.prog laid9 ((World.doorLaid Tryz.prog 72 os).forCall (fun _ _ => 0) ⟨#[], args, []⟩).memory :=
  laidMetH_of_parts3 (fuel := 8) (laidMet_of_run' 8 (by kernel_rfl) (by kernel_rfl)) (by kernel_rfl) (by kernel_rfl)
theorem of_laid9 {W : World} (h : laidMetH Tryz.prog laid9 W) : Tab W := by
  have h' : laidMet Tryz.prog [("math/bits.deBruijn32tab", Rows.laid_math_bits_deBruijn32tab), ("math/bits.deBruijn64tab", Rows.laid_math_bits_deBruijn64tab), ("internal/strconv.uint64pow10", Rows.laid_internal_strconv_uint64pow10)] W := h
  exact tab_of (laidMet_tl (laidMet_tl h'))
section
variable {H : Type} {enc : TypeId × Value → H} {W : World} {sp : Nat → Bool}
set_option maxRecDepth 20000 in
theorem open_numV {b0 : Nat} {v : Value} {d : DataW H} {p : List MemPlace} (hv : Value.okWide Tryz.prog W .any b0 25 v) (h : DataW.Trod enc Tryz.prog W 0 sp true 25 v d p) :
    ∃ (s : Bool) (n : Nat), v = intV s n ∧ Fits n := by
  have hu : Tryz.prog.underlying 25 = some (.struct (Tryz.prog.fieldsOf 25)) := by kernel_rfl
  obtain ⟨cs, rfl, hsz⟩ := okWide_struct hu hv
  obtain ⟨fuel, hf⟩ := h
  obtain ⟨s, n, hn, e⟩ := open_num hf
  refine ⟨s, n, ?_, hn⟩
  have e2 : cs = #[.bool s, .int .u64 (wd n 0 : Int), .int .u64 (wd n 1 : Int), .int .u64 (wd n 2 : Int), .int .u64 (wd n 3 : Int), .int .u64 (wd n 4 : Int), .int .u64 (wd n 5 : Int), .int .u64 (wd n 6 : Int), .int .u64 (wd n 7 : Int)] := Array.toList_inj.1 e
  rw [e2]
  rfl
end
end Go.Proofs.YtgoemhcngmpfbaaGreatDoor
