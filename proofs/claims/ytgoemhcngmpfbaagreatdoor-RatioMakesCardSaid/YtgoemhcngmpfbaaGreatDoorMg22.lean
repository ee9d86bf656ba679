/-
  The program's decimal texts: limb.decimal and limb.Text, for every number.
-/
import Derived.Test.YtgoemhcngmpfbaaGreatDoorMg17
import Derived.Test.YtgoemhcngmpfbaaGreatDoorMg20
import Derived.Test.YtgoemhcngmpfbaaGreatDoorMg12
import Derived.Test.YtgoemhcngmpfbaaGreatDoorMg21
import Derived.Test.YtgoemhcngmpfbaaGreatDoorMg18

namespace Go.Proofs.YtgoemhcngmpfbaaGreatDoor
open Go.RowKit Go.Sort
set_option linter.unusedSimpArgs false

theorem decS_size (n : Nat) : (decS n).size = (Lib.decDigits n).length := by simp [decS, ByteArray.size]
theorem fits_dec {n : Nat} (h : Fits n) : n < 10 ^ 155 := Nat.lt_of_lt_of_le h (by decide)
theorem decS_le {n : Nat} (h : Fits n) : (decS n).size ≤ 155 := by rw [decS_size]; exact decDigits_le (by decide) (fits_dec h)
/-- What is written so far (t), when q is left. -/
def TD (n q : Nat) (t : ByteArray) : Prop := decS n = decS q ++ t
theorem TD.start (n : Nat) : TD n n ⟨#[]⟩ := (empty_right _).symm
theorem TD.size {n q : Nat} {t : ByteArray} (h : TD n q t) : t.size ≤ (decS n).size := by
  rw [show decS n = decS q ++ t from h, bytes_size_app]; omega
theorem TD.stop {n q : Nat} {t : ByteArray} (h : TD n q t) (h0 : q / 10000000000000000000 = 0) : decS (q % 10000000000000000000) ++ t = decS n := by
  have : q % 10000000000000000000 = q := by omega
  rw [this]
  exact h.symm
theorem TD.step {n q c : Nat} {t : ByteArray} (h : TD n q t) (h0 : q / 10000000000000000000 ≠ 0) (hc : 19 - (decS (q % 10000000000000000000)).size = c) :
    TD n (q / 10000000000000000000) ((((⟨(Lib.repeatL [48] c).toArray⟩ : ByteArray) ++ decS (q % 10000000000000000000))) ++ t) := by
  unfold TD at h ⊢
  rw [h, ← bytes_assoc]
  congr 1
  have e : q = q / 10000000000000000000 * 10 ^ 19 + q % 10000000000000000000 := by
    rw [show (10 : Nat) ^ 19 = 10000000000000000000 by decide]
    omega
  have hr : q % 10000000000000000000 < 10 ^ 19 := Nat.mod_lt _ (by decide)
  have h2 := dec_pieces 19 (q / 10000000000000000000) (q % 10000000000000000000) (by decide) (Nat.pos_of_ne_zero h0) hr
  rw [← e] at h2
  rw [decS_size] at hc
  show (⟨(Lib.decDigits q).toArray⟩ : ByteArray) = ⟨_⟩ ++ (⟨_⟩ ++ ⟨_⟩)
  rw [bytes_app, bytes_app, h2, repeat_zero, ← hc]
  rfl
theorem chunk_small (q : Nat) : (decS (q % 10000000000000000000)).size ≤ 19 := by
  rw [decS_size]
  exact decDigits_le (by decide) (Nat.mod_lt _ (by decide))
theorem chunk_lt {q : Nat} (h : q / 10000000000000000000 ≠ 0) : q / 10000000000000000000 < q := by omega
set_option maxRecDepth 100000 in
set_option maxHeartbeats 4000000 in
theorem decimal_run (n : Nat) (w : World) (hn : Hid (Fits n)) (ht : Hid (Tab w)) :
    Calls Tryz.prog 73 #[wordsV n] w fun e w' => e = .returned (.string (decS n)) ∧ Below w.heap.size w w' := by
  have hN := decS_le hn.out
  obtain ⟨N, hNe⟩ : ∃ N, decS n = N := ⟨_, rfl⟩
  rw [hNe] at hN ⊢
  have HNE := Lib.hid hNe
  clear hNe
  obtain ⟨S, hS⟩ : ∃ S, w.heap.size = S := ⟨_, rfl⟩
  obtain ⟨W, hW⟩ : ∃ W, w.alloc (boxO n 119) = W := ⟨_, rfl⟩
  have A1 := WordsAt.new w n 119
  have B1 := below_alloc w (boxO n 119)
  have z1 : (w.alloc (boxO n 119)).heap.size = S + 1 := by simp [hS]
  rw [show w.alloc (.cells #[.int .u64 (wd n 0 : Int), .int .u64 (wd n 1 : Int), .int .u64 (wd n 2 : Int), .int .u64 (wd n 3 : Int), .int .u64 (wd n 4 : Int), .int .u64 (wd n 5 : Int), .int .u64 (wd n 6 : Int), .int .u64 (wd n 7 : Int)] 119) = W from hW, hS] at A1
  rw [hW, hS] at B1
  rw [hW] at z1
  have HA := Lib.hid A1
  have HB := Lib.hid B1
  have HZ : Hid (S + 1 ≤ W.heap.size) := Nat.le_of_eq z1.symm
  have HT0 : Hid (∀ w', Below S w w' → Tab w') := fun w' hb => ht.out.below (by rw [hS]; exact hb)
  clear A1 B1 z1 ht
  rw [hS]
  unfold wordsV
  go_enter Tryz.func73, Tryz.ntmps73
  go_wp2_with fail
  clear hW
  go_loopg [3] (n + 1) (fun h s3 wr => ∃ (q : Nat) (t : ByteArray), s3 = .string t ∧ Hid (q < h) ∧ Hid (TD n q t) ∧ Hid (Fits q) ∧ Hid (WordsAt wr S 0 q 8) ∧ Hid (Below S w wr) ∧ Hid (S + 1 ≤ wr.heap.size))
  case atStart => exact ⟨n, ⟨#[]⟩, rfl, Nat.lt_succ_self n, TD.start n, hn, HA, HB, HZ⟩
  case round =>
    clear HA HB HZ
    obtain ⟨q, t, rfl, HQ, HD, HF, HA, HB, HZ⟩ := hrel
    have htl : t.size ≤ N.size := by have := HD.out.size; rwa [HNE.out] at this
    have HC := fun V => divide_run q 10000000000000000000 V HF (Nat.lt_of_lt_of_le (show 10000000000000000000 < 18446744073709551616 by decide) (Nat.le_self_pow (by decide) _)) (by decide)
    rw [wordsV_small (show 10000000000000000000 < 18446744073709551616 by decide)] at HC
    have hsr := chunk_small q
    have HST : Hid (q / 10000000000000000000 = 0 → decS (q % 10000000000000000000) ++ t = N) := fun h => by rw [← HNE.out]; exact HD.out.stop h
    have HSP := Lib.hid (fun (h : q / 10000000000000000000 ≠ 0) => HD.out.step h rfl)
    have HFq : Hid (Fits (q / 10000000000000000000)) := Nat.lt_of_le_of_lt (Nat.div_le_self _ _) HF.out
    have HLT : Hid (q / 10000000000000000000 ≠ 0 → q / 10000000000000000000 < q) := fun h => chunk_lt h
    have hr64 : q % 10000000000000000000 < 18446744073709551616 := Nat.lt_trans (Nat.mod_lt _ (by decide)) (by decide)
    generalize hq' : q / 10000000000000000000 = q' at *
    generalize q % 10000000000000000000 = r at *
    clear hq'
    have HFU : Hid (∀ V, Tab V → Calls Tryz.prog 116 #[.int .u64 (wd r 0 : Int), .int .i64 10] V fun e w' => e = .returned (.string (decS r)) ∧ Below V.heap.size V w') := fun V hV => by rw [(wd_small hr64).1]; exact format_run r hr64 V hV
    generalize decS r = dr at *
    obtain ⟨c, hc⟩ : ∃ c, 19 - dr.size = c := ⟨_, rfl⟩
    have hcz : (19 : Int) - (dr.size : Int) = (c : Int) := by omega
    have hc19 : c ≤ 19 := by omega
    have HRP : Hid (∀ V, Calls Tryz.prog 117 #[.string ⟨#[48]⟩, .int .i64 (c : Int)] V fun e w' => e = .returned (.string ⟨(Lib.repeatL [48] c).toArray⟩) ∧ Below V.heap.size V w') := fun V => Tryz.strings_Repeat ⟨#[48]⟩ c V (by omega) (by show 1 * c ≤ _; omega)
    rw [hc] at HSP
    have hrs : (⟨(Lib.repeatL [48] c).toArray⟩ : ByteArray).size = c := by simp [ByteArray.size, Lib.repeatL_length]
    generalize (⟨(Lib.repeatL [48] c).toArray⟩ : ByteArray) = zs at *
    clear hc
    have heq := fun V => eqWords q' 0 V HFq.out (Nat.pow_pos (by decide))
    simp only [wordsV, wd_zero, Int.natCast_zero] at heq
    unfold wordsV at HC
    have HC := Lib.hid HC
    obtain ⟨⟨a0, b0⟩, ⟨a1, b1⟩, ⟨a2, b2⟩, ⟨a3, b3⟩, ⟨a4, b4⟩, ⟨a5, b5⟩, ⟨a6, b6⟩, ⟨a7, b7⟩⟩ := HA.out.eight
    by_cases hq0 : q' = 0
    · have HE := Lib.hid (HST.out hq0)
      rw [decide_eq_true hq0] at heq
      clear HSP HLT HRP hq0
      go_wp2_with fail
      refine (HC.out _).mono ?_
      rintro e w1 ⟨rfl, hw1⟩
      have HZ1 : Hid (S + 1 ≤ w1.heap.size) := Nat.le_trans HZ.out hw1.size
      have B2 : Hid (∀ o p : Obj, Below S w ((w1.alloc o).alloc p)) := fun o p => ((HB.out.trans (hw1.mono (by have := HZ.out; omega))).alloc (by have := HZ1.out; omega) o).alloc (by have := HZ1.out; simp; omega) p
      obtain ⟨R, hR⟩ : ∃ R, w1.heap.size = R := ⟨_, rfl⟩
      have P2 := Lib.hid (two_boxes w1 q' r 119 119)
      rw [hR] at P2
      have HR : Hid (S + 1 ≤ R) := by rw [← hR]; exact HZ1
      clear hw1 HC a0 a1 a2 a3 a4 a5 a6 a7 b0 b1 b2 b3 b4 b5 b6 b7 HA HZ1
      go_wp2_with fail
      refine (HFU.out _ (HT0.out _ (B2.out _ _))).mono ?_
      rintro e w2 ⟨rfl, hw2⟩
      have B3 : Hid (Below S w w2) := (B2.out _ _).trans (hw2.mono (by have := HR.out; simp; omega))
      have K2 : Hid (WordsAt w2 R 0 q' 8) := P2.out.1.keep hw2 (by simp; omega)
      clear hw2 HFU HT0 B2 P2
      obtain ⟨⟨a0, b0⟩, ⟨a1, b1⟩, ⟨a2, b2⟩, ⟨a3, b3⟩, ⟨a4, b4⟩, ⟨a5, b5⟩, ⟨a6, b6⟩, ⟨a7, b7⟩⟩ := K2.out.eight
      clear b0 b1 b2 b3 b4 b5 b6 b7
      go_wp2_with fail
      go_ret
      exact ⟨congrArg (fun x => Ending.returned (.string x)) HE.out, B3.out⟩
    · have HE := Lib.hid (HSP.out hq0)
      have HL := Lib.hid (HLT.out hq0)
      rw [decide_eq_false hq0] at heq
      clear HST HSP HLT hq0
      go_wp2_with fail
      refine (HC.out _).mono ?_
      rintro e w1 ⟨rfl, hw1⟩
      have HZ1 : Hid (S + 1 ≤ w1.heap.size) := Nat.le_trans HZ.out hw1.size
      have B2 : Hid (∀ o p : Obj, Below S w ((w1.alloc o).alloc p)) := fun o p => ((HB.out.trans (hw1.mono (by have := HZ.out; omega))).alloc (by have := HZ1.out; omega) o).alloc (by have := HZ1.out; simp; omega) p
      have A2 : Hid (∀ o p : Obj, WordsAt ((w1.alloc o).alloc p) S 0 q 8) := fun o p => ((HA.out.keep hw1 (by have := HZ.out; omega)).alloc (by have := HZ1.out; omega) o).alloc (by have := HZ1.out; simp; omega) p
      obtain ⟨R, hR⟩ : ∃ R, w1.heap.size = R := ⟨_, rfl⟩
      have P2 := Lib.hid (two_boxes w1 q' r 119 119)
      rw [hR] at P2
      have HR : Hid (S + 1 ≤ R) := by rw [← hR]; exact HZ1
      clear hw1 HC a0 a1 a2 a3 a4 a5 a6 a7 b0 b1 b2 b3 b4 b5 b6 b7 HA HZ1
      go_wp2_with fail
      refine (HFU.out _ (HT0.out _ (B2.out _ _))).mono ?_
      rintro e w2 ⟨rfl, hw2⟩
      have B3 : Hid (Below S w w2) := (B2.out _ _).trans (hw2.mono (by have := HR.out; simp; omega))
      have K2 : Hid (WordsAt w2 R 0 q' 8) := P2.out.1.keep hw2 (by simp; omega)
      have A3 : Hid (WordsAt w2 S 0 q 8) := (A2.out _ _).keep hw2 (by have := HR.out; simp; omega)
      have Z3 : Hid (R + 1 ≤ w2.heap.size) := by have := hw2.size; simp at this; show _ ≤ _; omega
      clear hw2 HFU HT0 B2 A2 P2
      obtain ⟨⟨a0, b0⟩, ⟨a1, b1⟩, ⟨a2, b2⟩, ⟨a3, b3⟩, ⟨a4, b4⟩, ⟨a5, b5⟩, ⟨a6, b6⟩, ⟨a7, b7⟩⟩ := K2.out.eight
      clear b0 b1 b2 b3 b4 b5 b6 b7
      go_wp2_with fail
      refine (HRP.out _).mono ?_
      rintro e w3 ⟨rfl, hw3⟩
      have B4 : Hid (Below S w w3) := B3.out.trans (hw3.mono (by have := Z3.out; have := HR.out; omega))
      have K4 : Hid (WordsAt w3 R 0 q' 8) := K2.out.keep hw3 (by have := Z3.out; omega)
      have A4 : Hid (WordsAt w3 S 0 q 8) := A3.out.keep hw3 (by have := Z3.out; have := HR.out; omega)
      have Z4 : Hid (R + 1 ≤ w3.heap.size) := Nat.le_trans Z3.out hw3.size
      clear hw3 a0 a1 a2 a3 a4 a5 a6 a7
      obtain ⟨⟨a0, b0⟩, ⟨a1, b1⟩, ⟨a2, b2⟩, ⟨a3, b3⟩, ⟨a4, b4⟩, ⟨a5, b5⟩, ⟨a6, b6⟩, ⟨a7, b7⟩⟩ := K4.out.eight
      obtain ⟨⟨c0, d0⟩, ⟨c1, d1⟩, ⟨c2, d2⟩, ⟨c3, d3⟩, ⟨c4, d4⟩, ⟨c5, d5⟩, ⟨c6, d6⟩, ⟨c7, d7⟩⟩ := A4.out.eight
      clear b0 b1 b2 b3 b4 b5 b6 b7
      go_wp2_with fail
      go_roundg q
      case measure => exact HQ.out
      case rel => exact ⟨q', _, rfl, HL.out, HE.out, HFq, st8_at A4.out, (st8_but w3 S q').2.1 S w (Nat.le_refl _) B4.out, by show _ ≤ (st8 w3 S q').heap.size; rw [(st8_but w3 S q').2.2]; have := Z4.out; have := HR.out; omega⟩
set_option maxRecDepth 100000 in
set_option maxHeartbeats 4000000 in
theorem Text_run (s : Bool) (n : Nat) (w : World) (hn : Hid (Fits n)) (ht : Hid (Tab w)) :
    Calls Tryz.prog 33 #[intV s n] w fun e w' => e = .returned (.string (txt s n)) ∧ Below w.heap.size w w' := by
  have HC := Lib.hid (fun W => Canon_run s n W hn)
  have HD : Hid (∀ W, Tab W → Calls Tryz.prog 73 #[wordsV n] W fun e w' => e = .returned (.string (decS n)) ∧ Below W.heap.size W w') := fun W hW => decimal_run n W hn hW
  have HT0 : Hid (∀ w', Below w.heap.size w w' → Tab w') := fun w' hb => ht.out.below hb
  have hsz := decS_le hn.out
  unfold txt
  generalize decS n = x at *
  obtain ⟨z, hz⟩ : ∃ z, sgn s n = z := ⟨_, rfl⟩
  rw [hz] at HC ⊢
  clear hz hn ht
  obtain ⟨S, hS⟩ : ∃ S, w.heap.size = S := ⟨_, rfl⟩
  obtain ⟨W, hW⟩ : ∃ W, w.alloc (boxI s n 25) = W := ⟨_, rfl⟩
  have T1 := IntAt.new w s n 25
  have T2 := below_alloc w (boxI s n 25)
  have T3 : (w.alloc (boxI s n 25)).heap.size = w.heap.size + 1 := by simp
  rw [hW] at T1 T2 T3
  rw [hS] at T1 T2 T3 HT0 ⊢
  have HT := Lib.hid (And.intro T1 (And.intro T2 T3))
  clear T1 T2 T3
  unfold wordsV at HD
  cases z with
  | true =>
    simp only [if_true]
    go_enter Tryz.func33, Tryz.ntmps33
    go_wp2_with (first | (refine wpList_box_int rfl (.tmp 0) rfl rfl ?_) | (refine wpList_load_int rfl (.tmp 1) rfl rfl HT.out.1.o ?_))
    refine (HC.out _).mono ?_
    rintro e w1 ⟨rfl, hw1⟩
    have hz := HT.out.2.2
    have H1 := Lib.hid (HT.out.1.keep hw1 (by omega))
    have B1 := Lib.hid (HT.out.2.1.trans (hw1.mono (by omega)))
    have H2 := Lib.hid (st9_at (t := true) (m := n) H1.out)
    have B2 := Lib.hid ((st9_but w1 S true n).2.1 S w (by omega) B1.out)
    have z2 : S + 1 ≤ (st9 w1 S true n).heap.size := by rw [(st9_but w1 S true n).2.2]; exact Nat.le_trans (Nat.le_of_eq hz.symm) hw1.size
    clear hw1 HT hW HC hz
    obtain ⟨w2, hw2⟩ : ∃ w2, st9 w1 S true n = w2 := ⟨_, rfl⟩
    rw [hw2] at H2 B2 z2
    have Hw2 := Lib.hid hw2
    obtain ⟨⟨a0, x0⟩, ⟨a1, x1⟩, ⟨a2, x2⟩, ⟨a3, x3⟩, ⟨a4, x4⟩, ⟨a5, x5⟩, ⟨a6, x6⟩, ⟨a7, x7⟩, ⟨a8, x8⟩⟩ := H2.out.nine
    clear x0 x1 x2 x3 x4 x5 x6 x7 x8 hw2
    go_upto_region 2 with (refine wpList_store_int rfl (.tmp 1) (.tmp 4) rfl (b := S) (s := true) (n := n) rfl rfl H1.out ?_)
    rw [Hw2.out]
    clear Hw2
    go_wp2_with fail
    refine (HD.out _ (HT0.out _ B2.out)).mono ?_
    rintro e w3 ⟨rfl, hw3⟩
    have B3 := Lib.hid (B2.out.trans (hw3.mono (by omega)))
    clear hw3
    go_wp2_with fail
    go_ret
    exact ⟨rfl, B3.out⟩
  | false =>
    simp only [Bool.false_eq_true, if_false]
    go_enter Tryz.func33, Tryz.ntmps33
    go_wp2_with (first | (refine wpList_box_int rfl (.tmp 0) rfl rfl ?_) | (refine wpList_load_int rfl (.tmp 1) rfl rfl HT.out.1.o ?_))
    refine (HC.out _).mono ?_
    rintro e w1 ⟨rfl, hw1⟩
    have hz := HT.out.2.2
    have H1 := Lib.hid (HT.out.1.keep hw1 (by omega))
    have B1 := Lib.hid (HT.out.2.1.trans (hw1.mono (by omega)))
    have H2 := Lib.hid (st9_at (t := false) (m := n) H1.out)
    have B2 := Lib.hid ((st9_but w1 S false n).2.1 S w (by omega) B1.out)
    have z2 : S + 1 ≤ (st9 w1 S false n).heap.size := by rw [(st9_but w1 S false n).2.2]; exact Nat.le_trans (Nat.le_of_eq hz.symm) hw1.size
    clear hw1 HT hW HC hz
    obtain ⟨w2, hw2⟩ : ∃ w2, st9 w1 S false n = w2 := ⟨_, rfl⟩
    rw [hw2] at H2 B2 z2
    have Hw2 := Lib.hid hw2
    obtain ⟨⟨a0, x0⟩, ⟨a1, x1⟩, ⟨a2, x2⟩, ⟨a3, x3⟩, ⟨a4, x4⟩, ⟨a5, x5⟩, ⟨a6, x6⟩, ⟨a7, x7⟩, ⟨a8, x8⟩⟩ := H2.out.nine
    clear x0 x1 x2 x3 x4 x5 x6 x7 x8 hw2
    go_upto_region 2 with (refine wpList_store_int rfl (.tmp 1) (.tmp 4) rfl (b := S) (s := false) (n := n) rfl rfl H1.out ?_)
    rw [Hw2.out]
    clear Hw2
    go_wp2_with fail
    refine (HD.out _ (HT0.out _ B2.out)).mono ?_
    rintro e w3 ⟨rfl, hw3⟩
    have B3 := Lib.hid (B2.out.trans (hw3.mono (by omega)))
    clear hw3
    go_wp2_with fail
    go_ret
    exact ⟨rfl, B3.out⟩
end Go.Proofs.YtgoemhcngmpfbaaGreatDoor

/-
  The document's text of a number.
-/
namespace Go.Proofs.YtgoemhcngmpfbaaGreatDoor
open Go.RowKit Go.Sort
set_option linter.unusedSimpArgs false

theorem fieldT (C : Option Addr) (l c : Nat) (w : World) : (Instr.field 57 (.agg #[.bool false, .slice C l c]) 1).run Tryz.prog w = .ok (.slice C l c) w := by kernel_rfl
theorem digit_piece (r : Nat) (h : r < 10) : (⟨#[48, 49, 50, 51, 52, 53, 54, 55, 56, 57]⟩ : ByteArray).extract r (r + 1) = ⟨#[UInt8.ofNat (48 + r)]⟩ := by
  have : ∀ i : Fin 10, (⟨#[48, 49, 50, 51, 52, 53, 54, 55, 56, 57]⟩ : ByteArray).extract i.val (i.val + 1) = ⟨#[UInt8.ofNat (48 + i.val)]⟩ := by decide +kernel
  exact this ⟨r, h⟩
/-- A slice of digits of the call's own, as cells that may be written. -/
theorem own_digs {w : World} {base n cap x : Nat} {A : Option Addr} (h : OwnK .i64 3 w base (.slice A n cap) (digl n x)) (hn : 0 < n) (hc : n ≤ cap) : ∃ g, A = some ⟨g, 0, none⟩ ∧ base ≤ g ∧ g < w.heap.size ∧ DigF w g (fun i => dg x i) n := by
  have h1 : w.ownsRow base 3 1 (.slice A n cap) n ((digl n x).map fun x => Value.int .i64 x) := by
    have := h
    unfold OwnK at this
    rwa [digl_length] at this
  rcases (show w.ownsRow base 3 1 _ _ _ from h1).2 with ⟨h2, _⟩ | ⟨g, c, _, h2, _⟩
  · cases h2; omega
  · cases h2
    refine ⟨g, rfl, (h1.lt g rfl).1, (h1.lt g rfl).2, fun i hi => ⟨?_, h1.frozenAt i⟩⟩
    rw [h1.cellAt i (by omega)]
    rw [List.getElem?_map, digl_get hi]
    rfl
/-- The digits in the midst of a division by ten: the upper ones are divided already. -/
def mid (x j : Nat) : Nat → Nat := fun k => if k < j then dg x k else dg (x / 10) k
theorem mid_start {x L : Nat} : ∀ i, i < L → dg x i = mid x L i := fun i hi => by unfold mid; rw [if_pos hi]
theorem mid_end {x : Nat} : ∀ i, mid x 0 i = dg (x / 10) i := fun i => by unfold mid; rw [if_neg (by omega)]
theorem mid_at {x j : Nat} : mid x (j + 1) j = dg x j := by unfold mid; rw [if_pos (by omega)]
theorem mid_step {x j L v : Nat} (h : v = dg (x / 10) j) : ∀ i, i < L → updF (mid x (j + 1)) j v i = mid x j i := fun i _ => by
  by_cases e : i = j
  · subst e
    rw [updF_same]
    unfold mid
    rw [if_neg (by omega)]
    exact h
  · rw [updF_other e]
    unfold mid
    by_cases e2 : i < j
    · rw [if_pos e2, if_pos (by omega)]
    · rw [if_neg e2, if_neg (by omega)]
set_option maxRecDepth 100000 in
set_option maxHeartbeats 8000000 in
theorem Text_run7 (s : Bool) (A : Option Addr) (L cap n : Nat) (w : World) (h : Hid (Good w s A L cap n)) (hn : Hid (Fits n)) :
    Calls Tryz.prog 48 #[.agg #[.bool s, .slice A L cap]] w fun e w' => e = .returned (.string (txt s n)) ∧ Below w.heap.size w w' := by
  have hsl := decS_le hn.out
  rw [decS_size] at hsl
  have hcp := h.out.cap
  unfold Cap at hcp
  have hL32 : L ≤ 32 := by
    rw [← h.out.len]
    exact nl_le ((fits_dg n).1 hn.out)
  obtain ⟨S, hS⟩ : ∃ S, w.heap.size = S := ⟨_, rfl⟩
  by_cases h0 : n = 0
  · subst h0
    obtain rfl : L = 0 := by rw [← h.out.len, nl_zero]
    obtain rfl : s = false := by have := h.out.sg; simpa [sgn] using this.symm
    have ht : txt false 0 = ⟨#[48]⟩ := by unfold txt decS; rw [Lib.decDigits_one (by decide)]; rfl
    rw [ht]
    go_enter Tryz.func48, Tryz.ntmps48
    go_wp2_with fail
    go_ret
    exact ⟨rfl, below_alloc _ _⟩
  · have hL0 : 0 < L := by
      rw [← h.out.len]
      rcases Nat.eq_zero_or_pos (nl n) with h1 | h1
      · have := lt_nl n; rw [h1, Nat.pow_zero] at this; omega
      · exact h1
    have hLz : ¬ ((L : Int) = 0) := by omega
    have htx : txt s n = if s then (⟨#[45]⟩ : ByteArray) ++ decS n else decS n := by unfold txt; rw [h.out.sg]
    rw [htx]
    have HN0 := Lib.hid (NumAt.new w s A L cap)
    have HB0 := Lib.hid (below_alloc w (boxN s A L cap))
    have HZ0 : Hid ((w.alloc (boxN s A L cap)).heap.size = S + 1) := by show _ = _; simp [hS]
    rw [hS] at HB0 HN0
    have HW0 := h
    rw [hS]
    clear htx h0
    obtain ⟨W, hW⟩ : ∃ W, w.alloc (boxN s A L cap) = W := ⟨_, rfl⟩
    rw [hW] at HN0 HB0 HZ0
    obtain ⟨q0, q1, q2, q3⟩ := HN0.out
    have hWs : W.heap.size = S + 1 := HZ0.out
    obtain ⟨W1, hW1⟩ : ∃ W1, W.alloc (.cells #[] 3) = W1 := ⟨_, rfl⟩
    have b1 := below_alloc W (.cells #[] 3)
    have z1 : (W.alloc (.cells #[] 3)).heap.size = S + 1 + 1 := by simp [hWs]
    have o1 := OwnK.lit .i64 3 W (S + 1) [] (Nat.le_of_eq hWs.symm) (by simp)
    rw [show W.alloc (.cells ([].map fun x => Value.int .i64 x).toArray 3) = W1 from hW1, hWs] at o1
    rw [hW1] at b1 z1
    have HB1 := Lib.hid (HB0.out.trans (b1.mono (by omega)))
    have HN1 := Lib.hid (HN0.out.keep b1 (by omega))
    have HO1 := Lib.hid o1
    have HZ1 := Lib.hid z1
    have HD1 := Lib.hid ((h.out.digs.keep HB1.out (Nat.le_of_eq hS)).nums)
    rw [z1] at HD1
    obtain ⟨p0, p1, p2, p3⟩ := HN1.out
    have hlen : Hid ((digl L n).length ≤ 500000) := by show _ ≤ _; rw [digl_length]; omega
    clear b1 z1 o1
    go_enter Tryz.func48, Tryz.ntmps48
    go_wp2_with
      (at_builtin
       refine wpList_app int_slice _ rfl (.tmp 13) (.tmp 15) rfl (S + 1) (.slice (some ⟨S + 1, 0, none⟩) 0 0) [] rfl HO1.out (S + 1 + 1) A L cap (digl L n) rfl HD1.out (digl_length L n) (by simp) hlen.out (by have := HZ1.out; omega) ?_
       intro v3 w3 o3 g3 t3)
    rw [List.nil_append] at o3
    have B3 : Hid (Below S w w3) := HB1.out.trans ((Below.refl _ _).grown g3 (by rw [HZ1.out]; omega) (by intro g hg; cases hg; show S ≤ S + 1; omega))
    have N3 : Hid (NumAt w3 S s A L cap) := HN1.out.keep ((Below.refl (S + 1) W1).grown g3 (by rw [HZ1.out]; omega) (by intro g hg; cases hg; exact Nat.le_refl _)) (by omega)
    obtain ⟨A9, cap9, hv9, hc9, hm9, -⟩ := OwnK.nums o3
    rw [digl_length] at hv9 hc9
    subst hv9
    obtain ⟨g, rfl, hg1, hg2, D3⟩ := own_digs o3 hL0 hc9
    have HC9 : Hid (L ≤ cap9 ∧ cap9 ≤ 9223372036854775807) := ⟨hc9, by unfold maxLen at hm9; exact hm9⟩
    have HG : Hid (S + 1 ≤ g ∧ g < w3.heap.size) := ⟨hg1, hg2⟩
    have HD3 := Lib.hid D3
    clear o3 g3 t3 hg1 hg2 hc9 hm9 D3 p0 p1 p2 p3 q0 q1 q2 q3 hW hW1 HB1 HN1 HO1 HD1 HZ1 HN0 HB0 HZ0
    have HB3 : Hid (Below S w w3 ∧ NumAt w3 S s A L cap ∧ g < w3.heap.size) := ⟨B3.out, N3.out, HG.out.2⟩
    have HGS : Hid (S + 1 ≤ g) := HG.out.1
    have hLlen := h.out.len
    have HLL := Lib.hid hLlen
    have HSL := Lib.hid hsl
    clear B3 N3 HG hlen hsl hcp hLlen
    go_wp2_with fail
    go_loopg [4, 5] (n + 1) (fun h s4 s5 wr => ∃ (x K : Nat) (l : List UInt8) (t : ByteArray), s4 = .string t ∧ s5 = .slice (some ⟨g, 0, none⟩) K cap9 ∧ Hid (x < h ∧ x ≤ n) ∧ Hid (nl x = K) ∧ K ≤ L ∧ Hid (TxI n x l) ∧ Hid (t = ⟨l.toArray⟩) ∧ t.size ≤ 155 ∧ Hid (DigF wr g (fun i => dg x i) K) ∧ Hid (Below S w wr ∧ NumAt wr S s A L cap ∧ g < wr.heap.size))
    case atStart => exact ⟨n, L, [], ⟨#[]⟩, rfl, rfl, ⟨Nat.lt_succ_self n, Nat.le_refl n⟩, HLL, Nat.le_refl _, TxI.start (by intro e; rw [← HLL.out, e, nl_zero] at hL0; omega), rfl, by show 0 ≤ 155; omega, HD3, HB3⟩
    case round =>
      clear HD3 HB3
      obtain ⟨x, K, l, t, rfl, rfl, HX, HK, hKL, HT, HTL, htl, HD, HW⟩ := hrel
      by_cases hK0 : K = 0
      · subst hK0
        have HE : Hid (decS n = t) := by
          obtain rfl : x = 0 := nl_eq_zero.1 HK.out
          show _ = _
          rw [HTL.out, HT.out.end]
          rfl
        obtain ⟨q0, q1, q2, q3⟩ := HW.out.2.1
        cases s
        · go_wp2_with fail
          go_ret
          exact ⟨congrArg (fun x => Ending.returned (.string x)) HE.out.symm, HW.out.1⟩
        · go_wp2_with fail
          go_ret
          exact ⟨congrArg (fun x => Ending.returned (.string ((⟨#[45]⟩ : ByteArray) ++ x))) HE.out.symm, HW.out.1⟩
      · have hKpos : 0 < K := by omega
        have hKz : (0 : Int) < (K : Int) := by omega
        have HMS : Hid (DigF wr g (mid x K) K) := HD.out.ext mid_start
        have hx0 : x ≠ 0 := by intro e; rw [← HK.out, e, nl_zero] at hKpos; omega
        have HX0 := Lib.hid hx0
        clear HD hx0 hK0
        go_wp2_with fail
        go_loopg [6, 7, 8] (K + 1) (fun h s6 s7 s8 wr => ∃ (j r : Nat) (z : Int), s6 = .int .i64 (r : Int) ∧ s7 = .int .i64 z ∧ Hid (z = (j : Int) - 1 ∧ j < h) ∧ Hid (r = tr x j) ∧ r < 10 ∧ j ≤ K ∧ Hid (DigF wr g (mid x j) K) ∧ Hid (Below S w wr ∧ NumAt wr S s A L cap ∧ g < wr.heap.size))
        case atStart => exact ⟨K, 0, (K : Int) - 1, rfl, by go_num, ⟨rfl, Nat.lt_succ_self K⟩, (tr_start (Nat.le_of_eq HK.out)).symm, by omega, Nat.le_refl K, HMS, HW⟩
        case round =>
          clear HMS HW
          obtain ⟨j, r, z, rfl, rfl, HJ, HR, hr10, hjK, HD, HW⟩ := hrel
          cases j with
          | zero =>
            obtain rfl : z = -1 := by have := HJ.out.1; omega
            have HR2 : Hid (r = x % 10) := HR.out.trans (tr_end x)
            have HDA : Hid (DgAt wr (some ⟨g, 0, none⟩) K (x / 10)) := HD.out.at_ HW.out.2.2 (fun i _ => mid_end i)
            obtain ⟨M, hM⟩ : ∃ M, nl (x / 10) = M := ⟨_, rfl⟩
            have HM := Lib.hid hM
            have hMK : M ≤ K := by rw [← hM, ← HK.out]; exact nl_div_le x 10
            have HLT : Hid (x / 10 < 65536 ^ K) := Nat.lt_of_le_of_lt (Nat.div_le_self x 10) (by rw [← HK.out]; exact lt_nl x)
            have HTR := Lib.hid (trim_run false false (some ⟨g, 0, none⟩) K cap9 (x / 10) M wr HDA HLT ⟨by have := HC9.out; omega, HC9.out.2⟩ rfl HM)
            have HS := Lib.hid (HT.out.step HX0.out)
            clear hM
            go_wp2_with fail
            refine (HTR.out).mono ?_
            rintro e w4 ⟨rfl, hw4⟩
            have HD4 : Hid (DigF w4 g (fun i => dg (x / 10) i) M) := fun i hi => by
              have h1 := (HD.out.ext (h := fun i => dg (x / 10) i) (fun i _ => mid_end i)) i (by omega)
              exact ⟨(hw4.cell (p := ⟨g, i, none⟩) HW.out.2.2).trans h1.1, (hw4.frozen (p := ⟨g, i, none⟩) HW.out.2.2).trans h1.2⟩
            have HW4 : Hid (Below S w w4 ∧ NumAt w4 S s A L cap ∧ g < w4.heap.size) := ⟨HW.out.1.trans (hw4.mono (by have := HGS.out; have := HW.out.2.2; omega)), HW.out.2.1.below hw4, Nat.lt_of_lt_of_le HW.out.2.2 hw4.size⟩
            have hft := fieldT (some ⟨g, 0, none⟩) M cap9
            have hsz2 : ((⟨#[48, 49, 50, 51, 52, 53, 54, 55, 56, 57]⟩ : ByteArray).extract r (r + 1) ++ t).size ≤ 155 := by
              have h1 := tx_len HS.out
              rw [digit_piece r hr10, HR2.out, HTL.out]
              show ((⟨[UInt8.ofNat (48 + x % 10)].toArray⟩ : ByteArray) ++ ⟨l.toArray⟩).size ≤ 155
              rw [bytes_app]
              exact Nat.le_trans (by simpa [ByteArray.size] using h1) HSL.out
            have HT2 : Hid ((⟨#[48, 49, 50, 51, 52, 53, 54, 55, 56, 57]⟩ : ByteArray).extract r (r + 1) ++ t = ⟨(UInt8.ofNat (48 + x % 10) :: l).toArray⟩) := by
              show _ = _
              rw [digit_piece r hr10, HR2.out, HTL.out]
              show ((⟨[UInt8.ofNat (48 + x % 10)].toArray⟩ : ByteArray) ++ ⟨l.toArray⟩) = _
              rw [bytes_app]
              rfl
            clear hw4 HTR HDA HD HW
            generalize (⟨#[48, 49, 50, 51, 52, 53, 54, 55, 56, 57]⟩ : ByteArray).extract r (r + 1) ++ t = t2 at *
            go_wp2_with fail
            go_roundg x
            case measure => exact HX.out.1
            case rel => exact ⟨x / 10, M, _, t2, rfl, rfl, ⟨Nat.div_lt_self (Nat.pos_of_ne_zero HX0.out) (by decide), Nat.le_trans (Nat.div_le_self x 10) HX.out.2⟩, HM, by omega, HS, HT2, hsz2, HD4, HW4⟩
          | succ i =>
            obtain rfl : z = (i : Int) := by have := HJ.out.1; omega
            obtain ⟨d, hd⟩ : ∃ d, dg x i = d := ⟨_, rfl⟩
            have hd6 : d < 65536 := by rw [← hd]; exact dg_lt _ _
            have hc := HD.out i (by omega)
            rw [mid_at, hd] at hc
            obtain ⟨c1, c2⟩ := hc
            have hiK : i < K := by omega
            have hiz : (i : Int) < (K : Int) := by omega
            obtain ⟨u, hu⟩ : ∃ u, (r * 65536 + d) / 10 = u := ⟨_, rfl⟩
            obtain ⟨v, hv⟩ : ∃ v, (r * 65536 + d) % 10 = v := ⟨_, rfl⟩
            have huz : ((r : Int) * 65536 + (d : Int)) / 10 = (u : Int) := by omega
            have hvz : ((r : Int) * 65536 + (d : Int)) % 10 = (v : Int) := by omega
            have HU : Hid (u = dg (x / 10) i) := by show _ = _; rw [← hu, HR.out, ← hd]; exact tr_div x i
            have HV : Hid (v = tr x i) := by show _ = _; rw [← hv, HR.out, ← hd]; exact tr_mod x i
            have hv10 : v < 10 := by rw [← hv]; exact Nat.mod_lt _ (by decide)
            clear hu hv hd
            go_wp2_with fail
            go_roundg (i + 1)
            case measure => have := HJ.out; omega
            case rel =>
              refine ⟨i, v, (i : Int) - 1, by go_num, by go_num, ⟨rfl, Nat.lt_succ_self i⟩, HV, hv10, by omega, (HD.out.upd hiK u).ext (mid_step HU.out), HW.out.1.setCell (p := ⟨g, i, none⟩) (by have := HGS.out; show S ≤ g; omega) _, ?_, ?_⟩
              · exact HW.out.2.1.but (But1.setCell wr g i _) (by have := HGS.out; omega)
              · rw [World.size_setCell]; exact HW.out.2.2
end Go.Proofs.YtgoemhcngmpfbaaGreatDoor
