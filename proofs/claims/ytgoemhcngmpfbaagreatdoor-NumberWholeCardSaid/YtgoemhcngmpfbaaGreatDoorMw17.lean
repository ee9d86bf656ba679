/-
  Stage 8: the texts of small numbers: what the chapter's example asks.
-/
import Derived.Test.YtgoemhcngmpfbaaGreatDoorMw16
import Derived.Test.YtgoemhcngmpfbaaGreatDoorMw01
import Derived.Lib.ItoaMem
import Derived.Lib.AppendIntMem
import Derived.Test.YtgoemhcngmpfbaaGreatDoorRows
import Derived.Test.YtgoemhcngmpfbaaGreatDoorMw11
import Derived.Test.YtgoemhcngmpfbaaGreatDoorMw02
import Derived.Lib.Bytes

namespace Go.Proofs.YtgoemhcngmpfbaaGreatDoor
open Go.RowKit Go.Sort
set_option linter.unusedSimpArgs false

theorem wpList_load_rat_w {ops : Array Oper} {rest : List Oper} {op : Oper} {a : Act} {w : World} {Q : Exit → Act → World → Prop} (hw : Region.wanted op (yielded ops a.tmps) = true) (x : Operand) (ho : op.op = .load 27 x)
    {b n d : Nat} {s t : Bool} (hx : a.eval x = .pointer (some ⟨b, 0, none⟩)) (h : RatAt w b s n t d)
    (hK : wpList Tryz.prog ops Q rest (a.put op.dst (ratV s n t d)) w) : wpList Tryz.prog ops Q (op :: rest) a w := by
  refine wpList_step fun K hK' => ?_
  rw [if_pos hw]
  unfold Oper.wp
  rw [ld_rat x ho hx h]
  exact hK' _ _ hK
theorem wpList_load_int_w {ops : Array Oper} {rest : List Oper} {op : Oper} {a : Act} {w : World} {Q : Exit → Act → World → Prop} (hw : Region.wanted op (yielded ops a.tmps) = true) (x : Operand) (ho : op.op = .load 25 x)
    {b o n : Nat} {s : Bool} (hx : a.eval x = .pointer (some ⟨b, o, none⟩)) (h : IntO w b o s n)
    (hK : wpList Tryz.prog ops Q rest (a.put op.dst (intV s n)) w) : wpList Tryz.prog ops Q (op :: rest) a w := by
  refine wpList_step fun K hK' => ?_
  rw [if_pos hw]
  unfold Oper.wp
  rw [ld_int x ho hx h]
  exact hK' _ _ hK
theorem eqg_int (op : BinOp) (x y : Operand) (s : Bool) (n : Nat) (t : Bool) (m : Nat) (w : World) : (eqGuard op 25 x y (intV s n) (intV t m)).run Tryz.prog w = .ok () w := by
  unfold intV
  exact run_eqGuard_agg (P := Tryz.prog) w op 25 x y _ _ (by kernel_rfl)
theorem eqg_rat (op : BinOp) (x y : Operand) (s : Bool) (n : Nat) (t : Bool) (d : Nat) (s' : Bool) (n' : Nat) (t' : Bool) (d' : Nat) (w : World) : (eqGuard op 27 x y (ratV s n t d) (ratV s' n' t' d')).run Tryz.prog w = .ok () w := by
  unfold ratV
  exact run_eqGuard_agg (P := Tryz.prog) w op 27 x y _ _ (by kernel_rfl)
theorem wordsV_small {k : Nat} (h : k < 18446744073709551616) : wordsV k = .agg #[.int .u64 (k : Int), .int .u64 0, .int .u64 0, .int .u64 0, .int .u64 0, .int .u64 0, .int .u64 0, .int .u64 0] := by
  obtain ⟨h0, h1, h2, h3, h4, h5, h6, h7⟩ := wd_small' h
  simp only [wordsV, h0, h1, h2, h3, h4, h5, h6, h7, Int.natCast_zero]
/-- The decimal digits of a number, as a string. -/
def decS (n : Nat) : ByteArray := ⟨(Lib.decDigits n).toArray⟩
set_option maxHeartbeats 2000000 in
theorem formatI_small (n : Nat) (hn : n < 100) (w : World) :
    Calls Tryz.prog 143 #[.int .u64 (n : Int), .int .i64 10] w fun e w' => e = .returned (.string (decS n)) ∧ w = w' := by
  have HS := Lib.hid (fun W => Tryz.internal_strconv_small n hn W)
  have h1 : (n : Int) < 100 := by omega
  have h2 : IntKind.i64.wrap (n : Int) = (n : Int) := by rw [IntKind.wrap_i64]; omega
  go_enter Tryz.func143, Tryz.ntmps143
  go_wp2_with fail
  refine (HS.out _).mono ?_
  rintro e w1 ⟨rfl, rfl⟩
  go_wp2_with fail
  go_ret
  exact ⟨rfl, rfl⟩
set_option maxHeartbeats 2000000 in
theorem format_small (n : Nat) (hn : n < 100) (w : World) :
    Calls Tryz.prog 116 #[.int .u64 (n : Int), .int .i64 10] w fun e w' => e = .returned (.string (decS n)) ∧ w = w' := by
  have HS := Lib.hid (fun W => formatI_small n hn W)
  go_enter Tryz.func116, Tryz.ntmps116
  go_wp2_with fail
  refine (HS.out _).mono ?_
  rintro e w1 ⟨rfl, rfl⟩
  go_wp2_with fail
  go_ret
  exact ⟨rfl, rfl⟩
theorem empty_right (s : ByteArray) : s ++ (⟨#[]⟩ : ByteArray) = s := by
  apply ByteArray.ext
  simp [ByteArray.data_append]
theorem decS_small {n : Nat} (h : n < 100) : (decS n).size ≤ 2 := by
  have h1 : (decS n).size = (Lib.decDigits n).length := by simp [decS, ByteArray.size]
  rw [h1, Lib.decDigits]
  split
  · simp
  · rw [Lib.decDigits]
    split
    · simp
    · omega
set_option maxRecDepth 100000 in
set_option maxHeartbeats 4000000 in
theorem decimal_small (n : Nat) (hn : n < 100) (w : World) :
    Calls Tryz.prog 73 #[wordsV n] w fun e w' => e = .returned (.string (decS n)) ∧ Below w.heap.size w w' := by
  have hf1 : Fits n := Nat.lt_of_lt_of_le hn (Nat.le_trans (show 100 ≤ 18446744073709551616 by decide) (Nat.le_self_pow (by decide) _))
  have hf2 : Fits 10000000000000000000 := Nat.lt_of_lt_of_le (show 10000000000000000000 < 18446744073709551616 by decide) (Nat.le_self_pow (by decide) _)
  have HD := fun W => divide_run n 10000000000000000000 W hf1 hf2 (by decide)
  rw [Nat.div_eq_of_lt (Nat.lt_of_lt_of_le hn (by decide)), Nat.mod_eq_of_lt (Nat.lt_of_lt_of_le hn (by decide))] at HD
  rw [wordsV_small (show n < 18446744073709551616 by omega)]
  rw [wordsV_small (show n < 18446744073709551616 by omega), wordsV_small (show 10000000000000000000 < 18446744073709551616 by decide), wordsV_small (show 0 < 18446744073709551616 by decide)] at HD
  have HD := Lib.hid HD
  have HF := Lib.hid (fun W => format_small n hn W)
  have heq := fun W => eqWords 0 0 W (Nat.pow_pos (by decide)) (Nat.pow_pos (by decide))
  rw [decide_eq_true rfl, wordsV_small (show 0 < 18446744073709551616 by decide)] at heq
  simp only [Int.natCast_zero] at HD heq
  have hc : ((10000000000000000000 : Nat) : Int) = 10000000000000000000 := rfl
  rw [hc] at HD
  have HE := Lib.hid (empty_right (decS n))
  have hsz := decS_small hn
  generalize decS n = s at *
  clear hf1 hf2 hc hn
  have HB := Lib.hid (below_alloc w (.cells #[.int .u64 (n : Int), .int .u64 0, .int .u64 0, .int .u64 0, .int .u64 0, .int .u64 0, .int .u64 0, .int .u64 0] 119))
  go_enter Tryz.func73, Tryz.ntmps73
  go_wp2_with fail
  refine wp_loop_rounds 1 ?_
  rw [rounds_succ]
  go_wp2_with fail
  refine (HD.out _).mono ?_
  rintro e w1 ⟨rfl, hw1⟩
  have B1 : Hid (∀ o p : Obj, Below w.heap.size w ((w1.alloc o).alloc p)) := fun o p => ((HB.out.trans (hw1.mono (by simp))).alloc (by have := hw1.size; simp at this; omega) o).alloc (by have := hw1.size; simp at this; simp; omega) p
  clear hw1 HD HB
  go_wp2_with fail
  refine (HF.out _).mono ?_
  rintro e w2 ⟨rfl, rfl⟩
  go_wp2_with fail
  go_ret
  exact ⟨(congrArg (fun x => Ending.returned (.string x)) HE.out : Ending.returned (.string (s ++ ⟨#[]⟩)) = _), B1.out _ _⟩
set_option maxRecDepth 100000 in
set_option maxHeartbeats 4000000 in
theorem Text_small (s : Bool) (n : Nat) (hn : n < 100) (w : World) :
    Calls Tryz.prog 33 #[intV s n] w fun e w' => e = .returned (.string (if sgn s n then (⟨#[45]⟩ : ByteArray) ++ decS n else decS n)) ∧ Below w.heap.size w w' := by
  have hf1 : Hid (Fits n) := Nat.lt_of_lt_of_le hn (Nat.le_trans (show 100 ≤ 18446744073709551616 by decide) (Nat.le_self_pow (by decide) _))
  have HC := Lib.hid (fun W => Canon_run s n W hf1)
  have HD := Lib.hid (fun W => decimal_small n hn W)
  have hsz := decS_small hn
  generalize decS n = x at *
  obtain ⟨z, hz⟩ : ∃ z, sgn s n = z := ⟨_, rfl⟩
  rw [hz] at HC ⊢
  clear hz hf1 hn
  obtain ⟨S, hS⟩ : ∃ S, w.heap.size = S := ⟨_, rfl⟩
  obtain ⟨W, hW⟩ : ∃ W, w.alloc (boxI s n 25) = W := ⟨_, rfl⟩
  have T1 := IntAt.new w s n 25
  have T2 := below_alloc w (boxI s n 25)
  have T3 : (w.alloc (boxI s n 25)).heap.size = w.heap.size + 1 := by simp
  rw [hW] at T1 T2 T3
  rw [hS] at T1 T2 T3 ⊢
  have HT := Lib.hid (And.intro T1 (And.intro T2 T3))
  clear T1 T2 T3
  unfold wordsV at HD
  cases z with
  | true =>
    simp only [if_true]
    go_enter Tryz.func33, Tryz.ntmps33
    go_wp2_with (first | (refine wpList_box_int rfl (.tmp 0) rfl rfl ?_) | (refine wpList_load_int rfl (.tmp 1) rfl rfl HT.out.1.o ?_))
    refine (HC.out _).mono ?_
    rintro e w1 ⟨rfl, hw1⟩
    have hz := HT.out.2.2
    have H1 := Lib.hid (HT.out.1.keep hw1 (by omega))
    have B1 := Lib.hid (HT.out.2.1.trans (hw1.mono (by omega)))
    have H2 := Lib.hid (st9_at (t := true) (m := n) H1.out)
    have B2 := Lib.hid ((st9_but w1 S true n).2.1 S w (by omega) B1.out)
    have z2 : S + 1 ≤ (st9 w1 S true n).heap.size := by rw [(st9_but w1 S true n).2.2]; exact Nat.le_trans (Nat.le_of_eq hz.symm) hw1.size
    clear hw1 HT hW HC hz
    obtain ⟨w2, hw2⟩ : ∃ w2, st9 w1 S true n = w2 := ⟨_, rfl⟩
    rw [hw2] at H2 B2 z2
    have Hw2 := Lib.hid hw2
    obtain ⟨⟨a0, x0⟩, ⟨a1, x1⟩, ⟨a2, x2⟩, ⟨a3, x3⟩, ⟨a4, x4⟩, ⟨a5, x5⟩, ⟨a6, x6⟩, ⟨a7, x7⟩, ⟨a8, x8⟩⟩ := H2.out.nine
    clear x0 x1 x2 x3 x4 x5 x6 x7 x8 hw2
    go_upto_region 2 with (refine wpList_store_int rfl (.tmp 1) (.tmp 4) rfl (b := S) (s := true) (n := n) rfl rfl H1.out ?_)
    rw [Hw2.out]
    clear Hw2
    go_wp2_with fail
    refine (HD.out _).mono ?_
    rintro e w3 ⟨rfl, hw3⟩
    have B3 := Lib.hid (B2.out.trans (hw3.mono (by omega)))
    clear hw3
    go_wp2_with fail
    go_ret
    exact ⟨rfl, B3.out⟩
  | false =>
    simp only [Bool.false_eq_true, if_false]
    go_enter Tryz.func33, Tryz.ntmps33
    go_wp2_with (first | (refine wpList_box_int rfl (.tmp 0) rfl rfl ?_) | (refine wpList_load_int rfl (.tmp 1) rfl rfl HT.out.1.o ?_))
    refine (HC.out _).mono ?_
    rintro e w1 ⟨rfl, hw1⟩
    have hz := HT.out.2.2
    have H1 := Lib.hid (HT.out.1.keep hw1 (by omega))
    have B1 := Lib.hid (HT.out.2.1.trans (hw1.mono (by omega)))
    have H2 := Lib.hid (st9_at (t := false) (m := n) H1.out)
    have B2 := Lib.hid ((st9_but w1 S false n).2.1 S w (by omega) B1.out)
    have z2 : S + 1 ≤ (st9 w1 S false n).heap.size := by rw [(st9_but w1 S false n).2.2]; exact Nat.le_trans (Nat.le_of_eq hz.symm) hw1.size
    clear hw1 HT hW HC hz
    obtain ⟨w2, hw2⟩ : ∃ w2, st9 w1 S false n = w2 := ⟨_, rfl⟩
    rw [hw2] at H2 B2 z2
    have Hw2 := Lib.hid hw2
    obtain ⟨⟨a0, x0⟩, ⟨a1, x1⟩, ⟨a2, x2⟩, ⟨a3, x3⟩, ⟨a4, x4⟩, ⟨a5, x5⟩, ⟨a6, x6⟩, ⟨a7, x7⟩, ⟨a8, x8⟩⟩ := H2.out.nine
    clear x0 x1 x2 x3 x4 x5 x6 x7 x8 hw2
    go_upto_region 2 with (refine wpList_store_int rfl (.tmp 1) (.tmp 4) rfl (b := S) (s := false) (n := n) rfl rfl H1.out ?_)
    rw [Hw2.out]
    clear Hw2
    go_wp2_with fail
    refine (HD.out _).mono ?_
    rintro e w3 ⟨rfl, hw3⟩
    have B3 := Lib.hid (B2.out.trans (hw3.mono (by omega)))
    clear hw3
    go_wp2_with fail
    go_ret
    exact ⟨rfl, B3.out⟩
end Go.Proofs.YtgoemhcngmpfbaaGreatDoor

/-
  strconv.FormatUint at base 10, for every word: its decimal digits.
-/
namespace Go.Proofs.YtgoemhcngmpfbaaGreatDoor
open Go.RowKit Go.Sort
set_option linter.unusedSimpArgs false

/-- strconv's table of powers of ten, as it is laid at the start. -/
def Tab (w : World) : Prop := Lib.TabIs Tryz.prog w "internal/strconv.uint64pow10" .u64 Lib.pow10Tab
theorem tab_glob : Tryz.prog.globalNamed "internal/strconv.uint64pow10" = some 5 := by kernel_rfl
theorem Tab.below {w w' : World} (h : Tab w) (hb : Below w.heap.size w w') : Tab w' := by
  unfold Tab Lib.TabIs World.var? at h ⊢
  rw [tab_glob] at h ⊢
  simp only [Option.bind_some] at h ⊢
  have hlt : 5 < w.heap.size := by
    rcases Nat.lt_or_ge 5 w.heap.size with h' | h'
    · exact h'
    · rw [Array.getElem?_eq_none h'] at h; cases h
  rw [hb.block _ hlt]
  exact h
set_option maxHeartbeats 4000000 in
set_option maxRecDepth 100000 in
theorem formatI_run (u : Nat) (hu64 : u < 18446744073709551616) (w : World) (ht : Hid (Tab w)) :
    Calls Tryz.prog 143 #[.int .u64 (u : Int), .int .i64 10] w fun e w' => e = .returned (.string (decS u)) ∧ Below w.heap.size w w' := by
  by_cases hs : u < 100
  · exact (formatI_small u hs w).mono fun e w' h => ⟨h.1, by rw [← h.2]; exact Below.refl _ _⟩
  · have hu1 : 1 ≤ u := by omega
    have hnd20 : Lib.nDigits u ≤ 20 := by have := Lib.numDigits_eq u hu1 hu64; split at this <;> omega
    have hal : Tryz.prog.arrayLen 217 = 24 := by kernel_rfl
    have hsl : ∀ W, (Instr.sliceAt 217 (.pointer (some ⟨w.heap.size, 0, none⟩)) none (some (.int .i64 (Lib.nDigits u : Int))) none).run Tryz.prog W = .ok (.slice (some ⟨w.heap.size, 0, none⟩) (Lib.nDigits u) 24) W := fun W => by
      rw [run_sliceAt_array_h W 217 ⟨w.heap.size, 0, none⟩ (by kernel_rfl) .i64 (Lib.nDigits u : Int) (by omega) (by rw [hal]; omega)]
      go_simp
    have hH0 := Lib.holds_zero0 w 217 (Lib.nDigits u) (by omega)
    have hfmt := Tryz.internal_strconv_formatBase10 w.heap.size 0 24 u (Array.replicate (Lib.nDigits u) 0) (w.alloc (.cells Lib.zeros24 217)) hH0 (by rw [Array.size_replicate]; exact Lib.lt_pow_nDigits u) hu64 (by rw [Array.size_replicate]; omega)
    rw [Array.size_replicate] at hfmt
    have HN := Lib.hid (Tryz.internal_strconv_numDigits u hu1 hu64 (w.alloc (.cells Lib.zeros24 217)) (Lib.tabIs_alloc ht.out _))
    have HF := Lib.hid hfmt
    have HH0 := Lib.hid hH0
    have iu : ¬ ((u : Int) < 100) := by omega
    clear hH0 hal hfmt
    go_enter Tryz.func143, Tryz.ntmps143
    go_wp2_with fail
    refine (HN.out).mono ?_
    rintro e w1 ⟨rfl, rfl⟩
    go_wp2_with fail
    refine (HF.out).mono ?_
    rintro e w2 ⟨rfl, k, v', dk, rfl, hF⟩
    obtain ⟨os, eo⟩ := Lib.fin_at w (.cells Lib.zeros24 217) dk k 0
    have HB : Hid (Below w.heap.size w ((putRow (fun (b : UInt8) => Value.int .u8 (b.toNat : Int)) (w.alloc (.cells Lib.zeros24 217)) w.heap.size 0 dk).drewN k)) := by
      show Below _ _ _
      rw [eo]
      exact Lib.below_grow _ _ (Nat.le_refl _) _ _
    have hcv : (convert 48 9 (.slice (some ⟨w.heap.size, 0, none⟩) (Lib.nDigits u) 24)).run Tryz.prog ((putRow (fun (b : UInt8) => Value.int .u8 (b.toNat : Int)) (w.alloc (.cells Lib.zeros24 217)) w.heap.size 0 dk).drewN k) = .ok (.string (decS u)) ((putRow (fun (b : UInt8) => Value.int .u8 (b.toNat : Int)) (w.alloc (.cells Lib.zeros24 217)) w.heap.size 0 dk).drewN k) := by
      have h := run_convert_bytes_back (P := Tryz.prog) ((putRow (fun (b : UInt8) => Value.int .u8 (b.toNat : Int)) (w.alloc (.cells Lib.zeros24 217)) w.heap.size 0 dk).drewN k) 48 9 5 ⟨w.heap.size, 0, none⟩ 24 (Lib.decDigits u) Tryz.underlying48 Tryz.underlying5 Tryz.underlying9 (fun j hj => by
        rw [Lib.row_is_numeral hF j hj, Lib.add_plain, World.cell?_drewN]
        exact cell?_putRow (fun (b : UInt8) => Value.int .u8 (b.toNat : Int)) _ w.heap.size 0 _ dk HH0.out (by rw [hF.size, Array.size_replicate]) j (by rw [hF.size]; rw [Lib.decDigits_length] at hj; exact hj))
      rw [Lib.decDigits_length] at h
      exact h
    generalize (putRow (fun (b : UInt8) => Value.int .u8 (b.toNat : Int)) (w.alloc (.cells Lib.zeros24 217)) w.heap.size 0 dk).drewN k = w2 at *
    clear eo hF HH0 HN HF
    go_wp2_with fail
    go_ret
    exact ⟨rfl, HB.out⟩
set_option maxHeartbeats 2000000 in
theorem format_run (u : Nat) (hu64 : u < 18446744073709551616) (w : World) (ht : Hid (Tab w)) :
    Calls Tryz.prog 116 #[.int .u64 (u : Int), .int .i64 10] w fun e w' => e = .returned (.string (decS u)) ∧ Below w.heap.size w w' := by
  have HS := Lib.hid (formatI_run u hu64 w ht)
  go_enter Tryz.func116, Tryz.ntmps116
  go_wp2_with fail
  refine (HS.out).mono ?_
  rintro e w1 ⟨rfl, hw1⟩
  have HB := Lib.hid hw1
  clear hw1
  go_wp2_with fail
  go_ret
  exact ⟨rfl, HB.out⟩
end Go.Proofs.YtgoemhcngmpfbaaGreatDoor

/-
  What the rows of stage 9's seat need: the table of powers of ten out of the rows' conditions; a number that came in by value.
-/
namespace Go.Proofs.YtgoemhcngmpfbaaGreatDoor
open Go.ChangeShapes Go.WideShapes Go.ChangeAt Go.RowKit Go.Deep

theorem laidMet_tl {P : Program} {W : World} {x : String × DataW Unit} {rest : List (String × DataW Unit)} (h : laidMet P (x :: rest) W) : laidMet P rest W := by
  obtain ⟨ps, ⟨g', t', cs, fuel, p, q, hg', ht', hvar, hd, hr, rfl⟩, hnd, hall⟩ := h
  exact ⟨q, hr, (List.nodup_append.1 hnd).2.1, fun b off hm => hall b off (List.mem_append_right _ hm)⟩
theorem tPow : (Tryz.prog.globals[5]?).map (·.type) = some 231 := by kernel_rfl
theorem pow_list : Lib.pow10Tab = [1, 10, 100, 1000, 10000, 100000, 1000000, 10000000, 100000000, 1000000000, 10000000000, 100000000000, 1000000000000, 10000000000000, 100000000000000, 1000000000000000, 10000000000000000, 100000000000000000, 1000000000000000000, 10000000000000000000] := by decide +kernel
theorem tab_of {W : World} {rest : List (String × DataW Unit)} (h : laidMet Tryz.prog (("internal/strconv.uint64pow10", Rows.laid_internal_strconv_uint64pow10) :: rest) W) : Tab W := by
  have h' : laidMet Tryz.prog (("internal/strconv.uint64pow10", Lib.tabData .u64 Lib.pow10Tab) :: rest) W := by
    rw [pow_list]
    exact h
  exact Lib.tabIs_of_head tab_glob tPow Tryz.underlying231 Tryz.underlying22 (by kernel_rfl) (by kernel_rfl) h'
/-- The variables that the row of RatioMakes lists. -/
def laid9 : List (String × DataW Unit) := Rows.ratioMakesRow.laid
theorem door_met9 (os : Os) (args : Array Value) : laidMetH Tryz.prog laid9 ((World.doorLaid Tryz.prog 72 os).forCall (fun _ _ => 0) ⟨#[], args, []⟩).memory :=
  laidMetH_of_parts3 (fuel := 8) (laidMet_of_run' 8 (by kernel_rfl) (by kernel_rfl)) (by kernel_rfl) (by kernel_rfl)
theorem of_laid9 {W : World} (h : laidMetH Tryz.prog laid9 W) : Tab W := by
  have h' : laidMet Tryz.prog [("math/bits.deBruijn32tab", Rows.laid_math_bits_deBruijn32tab), ("math/bits.deBruijn64tab", Rows.laid_math_bits_deBruijn64tab), ("internal/strconv.uint64pow10", Rows.laid_internal_strconv_uint64pow10)] W := h
  exact tab_of (laidMet_tl (laidMet_tl h'))
section
variable {H : Type} {enc : TypeId × Value → H} {W : World} {sp : Nat → Bool}
set_option maxRecDepth 20000 in
theorem open_numV {b0 : Nat} {v : Value} {d : DataW H} {p : List MemPlace} (hv : Value.okWide Tryz.prog W .any b0 25 v) (h : DataW.Trod enc Tryz.prog W 0 sp true 25 v d p) :
    ∃ (s : Bool) (n : Nat), v = intV s n ∧ Fits n := by
  have hu : Tryz.prog.underlying 25 = some (.struct (Tryz.prog.fieldsOf 25)) := by kernel_rfl
  obtain ⟨cs, rfl, hsz⟩ := okWide_struct hu hv
  obtain ⟨fuel, hf⟩ := h
  obtain ⟨s, n, hn, e⟩ := open_num hf
  refine ⟨s, n, ?_, hn⟩
  have e2 : cs = #[.bool s, .int .u64 (wd n 0 : Int), .int .u64 (wd n 1 : Int), .int .u64 (wd n 2 : Int), .int .u64 (wd n 3 : Int), .int .u64 (wd n 4 : Int), .int .u64 (wd n 5 : Int), .int .u64 (wd n 6 : Int), .int .u64 (wd n 7 : Int)] := Array.toList_inj.1 e
  rw [e2]
  rfl
end
end Go.Proofs.YtgoemhcngmpfbaaGreatDoor

/-
  Slices whose elements are structs (or anything of a fixed number of cells): told by a function f from what an element is to its cells. 'append' onto a slice of the call's own, whatever the source; reading an element. Nothing of the program is named here but its types' table.
-/
namespace Go.Proofs.YtgoemhcngmpfbaaGreatDoor
open Go.RowKit

/-- f lays an element in 'size' cells. -/
def EncOk {α : Type} (f : α → List Value) (size : Nat) : Prop := 0 < size ∧ ∀ a, (f a).length = size ∧ ∀ u ∈ f a, u.oneCell' = true
theorem flat_length {α : Type} {f : α → List Value} {size : Nat} (h : EncOk f size) : ∀ l : List α, (l.flatMap f).length = l.length * size
  | [] => by simp
  | a :: l => by
    rw [List.flatMap_cons, List.length_append, (h.2 a).1, flat_length h l, List.length_cons, Nat.add_mul]
    omega
theorem flat_get {α : Type} {f : α → List Value} {size : Nat} (h : EncOk f size) : ∀ {l : List α} {i j : Nat} {x : α} {u : Value}, l[i]? = some x → (f x)[j]? = some u → (l.flatMap f)[i * size + j]? = some u
  | [], i, j, x, u, hx, _ => by simp at hx
  | a :: l, 0, j, x, u, hx, hu => by
    simp at hx
    subst hx
    have hj : j < (f a).length := (List.getElem?_eq_some_iff.1 hu).1
    rw [List.flatMap_cons, Nat.zero_mul, Nat.zero_add, List.getElem?_append_left hj]
    exact hu
  | a :: l, i + 1, j, x, u, hx, hu => by
    have ih := flat_get h (l := l) (i := i) (j := j) (by simpa using hx) hu
    have e : (i + 1) * size + j - (f a).length = i * size + j := by rw [(h.2 a).1, Nat.add_mul]; omega
    rw [List.flatMap_cons, List.getElem?_append_right (by rw [(h.2 a).1, Nat.add_mul]; omega), e]
    exact ih
theorem flat_take {α : Type} {f : α → List Value} {size : Nat} (h : EncOk f size) : ∀ (l : List α) (n : Nat), (l.take n).flatMap f = (l.flatMap f).take (n * size)
  | [], n => by simp
  | a :: l, 0 => by simp
  | a :: l, n + 1 => by
    have h1 : (f a).take ((n + 1) * size) = f a := List.take_of_length_le (by rw [(h.2 a).1, Nat.add_mul]; omega)
    have h2 : (n + 1) * size - size = n * size := by rw [Nat.add_mul]; omega
    rw [List.take_succ_cons, List.flatMap_cons, List.flatMap_cons, flat_take h l n, List.take_append, h1, (h.2 a).1, h2]
/-- The elements l in the slice at A, in a block below B. -/
def CellsV {α : Type} (f : α → List Value) (w : World) (B : Nat) (A : Option Addr) (l : List α) : Prop :=
  0 < l.length → ∃ b o, A = some ⟨b, o, none⟩ ∧ b < B ∧ ∀ j u, (l.flatMap f)[j]? = some u → w.cell? ⟨b, o + j, none⟩ = some u
section
variable {α : Type} {f : α → List Value} {w w' : World} {B B' : Nat} {A : Option Addr} {l : List α}
theorem CellsV.keep (h : CellsV f w B A l) (hk : ∀ b o, b < B → w'.cell? ⟨b, o, none⟩ = w.cell? ⟨b, o, none⟩) : CellsV f w' B A l :=
  fun hp => by
    obtain ⟨b, o, e, hb, hc⟩ := h hp
    exact ⟨b, o, e, hb, fun j u hu => (hk b (o + j) hb).trans (hc j u hu)⟩
theorem CellsV.below (h : CellsV f w B A l) (hb : Below B' w w') (hB : B ≤ B') : CellsV f w' B A l :=
  h.keep fun _ _ hlt => hb.cell (Nat.lt_of_lt_of_le hlt hB)
theorem CellsV.more (h : CellsV f w B A l) (hB : B ≤ B') : CellsV f w B' A l :=
  fun hp => by
    obtain ⟨b, o, e, hb, hc⟩ := h hp
    exact ⟨b, o, e, by omega, hc⟩
theorem CellsV.on (h : CellsV f w B A l) (hB : B ≤ w.heap.size) (hb : Below w.heap.size w w') : CellsV f w' w'.heap.size A l :=
  (h.below hb hB).more (Nat.le_trans hB hb.size)
theorem CellsV.nil : CellsV f w B A [] := fun h => by simp at h
theorem CellsV.take {size : Nat} (he : EncOk f size) (h : CellsV f w B A l) (n : Nat) : CellsV f w B A (l.take n) :=
  fun hp => by
    obtain ⟨b, o, e, hb, hc⟩ := h (by rw [List.length_take] at hp; omega)
    refine ⟨b, o, e, hb, fun j u hu => hc j u ?_⟩
    rw [flat_take he, List.getElem?_take] at hu
    split at hu
    · exact hu
    · cases hu
/-- One element's cells. -/
theorem CellsV.get {size : Nat} (he : EncOk f size) (h : CellsV f w B A l) (hp : 0 < l.length) : ∃ b o, A = some ⟨b, o, none⟩ ∧ b < B ∧ ∀ i x, l[i]? = some x → ∀ j u, (f x)[j]? = some u → w.cell? ⟨b, o + (i * size + j), none⟩ = some u := by
  obtain ⟨b, o, e, hb, hc⟩ := h hp
  exact ⟨b, o, e, hb, fun i x hx j u hu => hc _ u (flat_get he hx hu)⟩
theorem CellsV.grown (h : CellsV f w B A l) {row : Option Nat} (hg : w.grownBy w' row) (hB : B ≤ w.heap.size) (hr : ∀ g, row = some g → B ≤ g) : CellsV f w' B A l :=
  h.keep fun b o hb => World.cell?_of_block (hg.block b (by omega) (fun e => by have := hr _ e.symm; omega))
end
/-- The slice v, made from block 'base' on, of element type E, holds the elements l. -/
def OwnV {α : Type} (f : α → List Value) (size : Nat) (E : TypeId) (w : World) (base : Nat) (v : Value) (l : List α) : Prop := w.ownsRow base E size v l.length (l.flatMap f)
/-- T is a slice type of elements E, which f lays in 'size' cells; z is E's zero. -/
def SliceV {α : Type} (f : α → List Value) (size : Nat) (T E : TypeId) : Prop :=
  EncOk f size ∧ Tryz.prog.underlying T = some (.slice E) ∧ ∃ z b, b ≤ 1000 ∧ z.cells.size = size ∧ (Tryz.prog.info? E).map (fun i => (i.zero, i.size, i.bytes)) = some (some z, size, b)
section
variable {α : Type} {f : α → List Value} {size : Nat} {T E : TypeId} {w w' : World} {base : Nat} {v : Value} {l : List α}
theorem ownV_ge (h : OwnV f size E w base v l) : ∀ g, v.ownBlock = some g → base ≤ g := fun g hg => (World.ownsRow.lt h g hg).1
theorem OwnV.below (h : OwnV f size E w base v l) (hb : Below w.heap.size w w') : OwnV f size E w' base v l :=
  World.ownsRow.kept h (row := none) ⟨hb.os, hb.tape, hb.output, hb.size, fun k hk _ => hb.block k hk⟩ (by cases v.ownBlock <;> simp)
theorem OwnV.alloc (h : OwnV f size E w base v l) (o : Obj) : OwnV f size E (w.alloc o) base v l := World.ownsRow.alloc h o
theorem OwnV.setCell (h : OwnV f size E w base v l) {p : Addr} (hp : p.block < base) (u : Value) : OwnV f size E (w.setCell p u) base v l :=
  ownsRow_setCell_other h (fun e => by have := ownV_ge h _ e; omega) u
theorem OwnV.nil (f : α → List Value) (size : Nat) (E : TypeId) (w : World) (base : Nat) : OwnV f size E w base (.slice none 0 0) ([] : List α) := World.ownsRow_nil _ _ _ _
theorem OwnV.lit (he : EncOk f size) (E : TypeId) (w : World) (base : Nat) (l : List α) (hb : base ≤ w.heap.size) (hl : l.length ≤ 1000000) :
    OwnV f size E (w.alloc (.cells (l.flatMap f).toArray E)) base (.slice (some ⟨w.heap.size, 0, none⟩) l.length l.length) l := by
  have := World.ownsRow_lit (e := E) (size := size) (base := base) w (l.flatMap f).toArray l.length hb (by simp only [maxLen]; omega) (by rw [List.size_toArray, flat_length he])
  simpa [OwnV] using this
/-- A slice of the call's own, as its elements. -/
theorem OwnV.cells (h : OwnV f size E w base v l) : ∃ A cap, v = .slice A l.length cap ∧ l.length ≤ cap ∧ cap ≤ 9223372036854775807 ∧ CellsV f w w.heap.size A l := by
  rcases h.2 with ⟨hv, h0⟩ | ⟨g, cap, cur, hv, _, _, hnc, hcm, _⟩
  · have : l = [] := List.eq_nil_of_length_eq_zero h0
    subst this
    exact ⟨none, 0, hv, Nat.le_refl _, by omega, CellsV.nil⟩
  · unfold maxLen at hcm
    refine ⟨_, cap, hv, hnc, hcm, fun _ => ?_⟩
    have hlt := World.ownsRow.lt h g (by rw [hv]; rfl)
    refine ⟨g, 0, rfl, hlt.2, fun i x hx => ?_⟩
    have := World.ownsRow.cells h (g := g) (by rw [hv]; rfl) i x hx
    have hp : (⟨g, 0, none⟩ : Addr).add i = ⟨g, 0 + i, none⟩ := by unfold Addr.add; split <;> simp_all
    rwa [hp] at this
theorem run_appV (hT : SliceV f size T E) (ty : TypeId) (hown : OwnV f size E w base v l) (B : Nat) (A : Option Addr) (m c : Nat) (news : List α) (hb : CellsV f w B A news) (hm : news.length = m)
    (hlen : l.length + m ≤ 1000000) (hbase : base ≤ w.heap.size) :
    ∃ v' w', (Builtin.append_ #[T, T] ty #[v, .slice A m c]).run Tryz.prog w = .ok v' w' ∧ OwnV f size E w' base v' (l ++ news) ∧ w.grownBy w' v.ownBlock ∧ (v'.ownBlock = v.ownBlock ∨ v'.ownBlock = some w.heap.size) := by
  subst hm
  obtain ⟨he, hu, z, bb, hbb, hzc, hi0⟩ := hT
  obtain ⟨i, hi, hi2⟩ := Option.map_eq_some_iff.1 hi0
  simp only [Prod.mk.injEq] at hi2
  obtain ⟨hz, hs, hby⟩ := hi2
  cases A with
  | none =>
    have hnil : news = [] := by
      rcases Nat.eq_zero_or_pos news.length with h0 | h0
      · exact List.eq_nil_of_length_eq_zero h0
      · obtain ⟨b, o, e, _⟩ := hb h0
        cases e
    subst hnil
    refine ⟨v, w, ?_, by simpa [OwnV] using hown, World.grownBy.refl w _, .inl rfl⟩
    rcases hown.2 with ⟨hv, hn⟩ | ⟨g, cap, cur, hv, _, _, hnc, _⟩
    · subst hv
      simp [Builtin.append_, run_underlying hu, sizeOf, typeInfo, hi, Builtin.lenOf, Builtin.firstCells]
    · subst hv
      simp [Builtin.append_, run_underlying hu, sizeOf, typeInfo, hi, Builtin.lenOf, Builtin.firstCells, hnc, storeCells]
  | some a =>
    have hcells : ∀ j u, (news.flatMap f)[j]? = some u → w.cell? (a.add j) = some u := by
      intro j u hu
      have hp0 : 0 < news.length := by
        rcases Nat.eq_zero_or_pos news.length with h0 | h0
        · have := List.eq_nil_of_length_eq_zero h0
          subst this
          simp at hu
        · exact h0
      obtain ⟨b, o, e, _, hc⟩ := hb hp0
      cases e
      have hp : (⟨b, o, none⟩ : Addr).add j = ⟨b, o + j, none⟩ := by unfold Addr.add; split <;> simp_all
      rw [hp]
      exact hc j u hu
    obtain ⟨v', w', hrun, h2, h3, _, h5⟩ := run_append_own_at (P := Tryz.prog) w base T ty E i z size bb hu hi hz hs hby hzc he.1 v l.length _ hown a news.length c
      (news.flatMap f) (flat_length he news) hcells (fun u hu => by
        obtain ⟨x, _, hx⟩ := List.mem_flatMap.1 hu
        exact (he.2 x).2 u hx) (by simp only [maxLen]; omega) (by
          have h1 : (l.length + news.length) * bb ≤ 1000000 * 1000 := Nat.mul_le_mul hlen hbb
          omega) hbase
    exact ⟨v', w', hrun, by unfold OwnV; rw [List.length_append, List.flatMap_append]; exact h2, h3, h5⟩
theorem wpList_appV (hT : SliceV f size T E) {ops : Array Oper} {rest : List Oper} {o : Oper} {a : Act} {Q : Exit → Act → World → Prop} (w : World) (hgd : o.guard = none) (s x : Operand)
    (ho : o.op = .call { callee := .builtin .append, args := #[s, x], argTypes := #[T, T] })
    (base : Nat) (v : Value) (l : List α) (hs : a.eval s = v) (hown : OwnV f size E w base v l)
    (B : Nat) (A : Option Addr) (m c : Nat) (news : List α) (hx : a.eval x = .slice A m c) (hb : CellsV f w B A news) (hm : news.length = m) (hlen : l.length ≤ 500000) (hlen2 : news.length ≤ 500000) (hbase : base ≤ w.heap.size)
    (h : ∀ v' w', OwnV f size E w' base v' (l ++ news) → w.grownBy w' v.ownBlock → (v'.ownBlock = v.ownBlock ∨ v'.ownBlock = some w.heap.size) → wpList Tryz.prog ops Q rest (a.put o.dst v') w') : wpList Tryz.prog ops Q (o :: rest) a w :=
  wpList_plain hgd fun _ hK => by
    obtain ⟨v', w', hrun, h2, h3, h4⟩ := run_appV hT o.type hown B A m c news hb hm (by omega) hbase
    unfold Oper.wp execOp
    simp only [ho, resolve, invoke, builtin, Sem.run_bind, Sem.run_pure, Result.andThen_ok, List.map_toArray, List.map_cons, List.map_nil, hs, hx, hrun]
    exact hK _ _ (h v' w' h2 h3 h4)
end
/-- Two int's: an element of a slice of spans. -/
def pairCells (p : Int × Int) : List Value := [.int .i64 p.1, .int .i64 p.2]
theorem pair_enc : EncOk pairCells 2 := ⟨by omega, fun p => ⟨rfl, fun u hu => by simp [pairCells] at hu; rcases hu with rfl | rfl <;> rfl⟩⟩
end Go.Proofs.YtgoemhcngmpfbaaGreatDoor

/-
  Slices of bytes and strings: what is known of a slice of bytes ('Byts'), a string's bytes ('bts'), bytes as a string, '[]byte(s)' and 'string(b)', append onto bytes of the call's own. (What XUtfDec, XUtfStr, XEdBase have of it, without package utf.)
-/
namespace Go.Proofs.YtgoemhcngmpfbaaGreatDoor
open Go.RowKit

/-- All are bytes. -/
def U.Byt (l : List Int) : Prop := ∀ x ∈ l, 0 ≤ x ∧ x ≤ 255
/-- The slice at A holds just the bytes l. -/
def Byts (w : World) (B : Nat) (A : Option Addr) (l : List Int) : Prop :=
  U.Byt l ∧ (0 < l.length → ∃ b o, A = some ⟨b, o, none⟩ ∧ b < B ∧ ∀ i x, l[i]? = some x → w.cell? ⟨b, o + i, none⟩ = some (.int .u8 x))
/-- The bytes l as a string. -/
def strOf (l : List Int) : ByteArray := strOfNums l
theorem strOf_inj {l m : List Int} (hl : U.Byt l) (hm : U.Byt m) (h : strOf l = strOf m) : l = m := by
  have h1 : l.map (fun n => UInt8.ofNat n.toNat) = m.map (fun n => UInt8.ofNat n.toNat) := by
    have := congrArg (fun b : ByteArray => b.data.toList) h
    simpa [strOf, strOfNums] using this
  clear h
  induction l generalizing m with
  | nil => cases m with
    | nil => rfl
    | cons x t => simp at h1
  | cons x t ih => cases m with
    | nil => simp at h1
    | cons y u =>
      simp only [List.map_cons, List.cons.injEq] at h1
      have hx := hl x (by simp)
      have hy := hm y (by simp)
      have e : x = y := by
        have := congrArg UInt8.toNat h1.1
        simp only [UInt8.toNat_ofNat'] at this
        omega
      rw [e, ih (fun z hz => hl z (by simp [hz])) (fun z hz => hm z (by simp [hz])) h1.2]
theorem Byts.out {w : World} {B : Nat} {A : Option Addr} {l : List Int} (h : Byts w B A l) : U.Byt l := h.1
theorem Byts.keep {w w' : World} {B : Nat} {A : Option Addr} {l : List Int} (h : Byts w B A l) (hk : ∀ b o, b < B → w'.cell? ⟨b, o, none⟩ = w.cell? ⟨b, o, none⟩) : Byts w' B A l :=
  ⟨h.1, fun hp => by
    obtain ⟨b, o, e, hb, hc⟩ := h.2 hp
    exact ⟨b, o, e, hb, fun i x hx => (hk b (o + i) hb).trans (hc i x hx)⟩⟩
theorem Byts.below {w w' : World} {B B' : Nat} {A : Option Addr} {l : List Int} (h : Byts w B A l) (hb : Below B' w w') (hB : B ≤ B') : Byts w' B A l :=
  h.keep fun _ _ hlt => hb.cell (Nat.lt_of_lt_of_le hlt hB)
theorem Byts.more {w : World} {B B' : Nat} {A : Option Addr} {l : List Int} (h : Byts w B A l) (hB : B ≤ B') : Byts w B' A l :=
  ⟨h.1, fun hp => by
    obtain ⟨b, o, e, hb, hc⟩ := h.2 hp
    exact ⟨b, o, e, by omega, hc⟩⟩
theorem Byts.on {w : World} {B : Nat} {A : Option Addr} {l : List Int} (h : Byts w B A l) (hB : B ≤ w.heap.size) {w' : World} (hb : Below w.heap.size w w') : Byts w' w'.heap.size A l :=
  (h.below hb hB).more (Nat.le_trans hB hb.size)
theorem Byts.nil {w : World} {B : Nat} {A : Option Addr} : Byts w B A [] := ⟨fun x hx => by simp at hx, fun h => by simp at h⟩
theorem Byts.take {w : World} {B : Nat} {A : Option Addr} {l : List Int} (h : Byts w B A l) (n : Nat) : Byts w B A (l.take n) :=
  ⟨fun x hx => h.1 x (List.mem_of_mem_take hx), fun hp => by
    obtain ⟨b, o, e, hb, hc⟩ := h.2 (by rw [List.length_take] at hp; omega)
    exact ⟨b, o, e, hb, fun i x hx => hc i x (by
      rw [List.getElem?_take] at hx
      split at hx
      · exact hx
      · cases hx)⟩⟩
theorem Byts.nums {w : World} {B : Nat} {A : Option Addr} {l : List Int} (h : Byts w B A l) : NumsK .u8 w B A l := h.2
theorem conv_bytes {w : World} {B : Nat} {A : Option Addr} {l : List Int} (h : Byts w B A l) (n cap : Nat) (hn : l.length = n) :
    (convert 48 9 (.slice A n cap)).run Tryz.prog w = .ok (.string (strOf l)) w := by
  subst hn
  by_cases hl : 0 < l.length
  · obtain ⟨b, o, rfl, _, hc⟩ := h.2 hl
    exact run_convert_bytes_arg w _ 5 Tryz.underlying48 Tryz.underlying5 b o l.length cap l rfl (fun i hi => by
      rw [hc i _ (List.getElem?_eq_getElem hi)]
      simp [List.getD, List.getElem?_eq_getElem hi]) _ Tryz.underlying9
  · have : l = [] := List.eq_nil_of_length_eq_zero (by omega)
    subst this
    cases A with
    | none => exact run_convert_bytes_nil w _ 5 Tryz.underlying48 Tryz.underlying5 _ _ _ Tryz.underlying9
    | some a =>
      have := run_convert_bytes_back w 48 9 5 a cap [] Tryz.underlying48 Tryz.underlying5 Tryz.underlying9 (fun j hj => by simp at hj)
      simpa [strOf, strOfNums] using this
/-- The bytes of a string. -/
def bts (s : ByteArray) : List Int := s.data.toList.map fun b => (b.toNat : Int)
theorem bts_length (s : ByteArray) : (bts s).length = s.size := by simp [bts]
theorem bts_byt (s : ByteArray) : U.Byt (bts s) := fun x hx => by
  simp only [bts, List.mem_map] at hx
  obtain ⟨b, _, rfl⟩ := hx
  have := b.toNat_lt
  omega
theorem u8_slice : SliceK .u8 48 5 := ⟨Tryz.underlying48, 1, by omega, by kernel_rfl⟩
end Go.Proofs.YtgoemhcngmpfbaaGreatDoor
