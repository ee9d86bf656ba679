/-
  The program's decimal texts: limb.decimal and limb.Text, for every number.
-/
import Derived.Test.YtgoemhcngmpfbaaGreatDoorMw17
import Derived.Test.YtgoemhcngmpfbaaGreatDoorMw18
import Derived.Test.YtgoemhcngmpfbaaGreatDoorMw12
import Derived.Test.YtgoemhcngmpfbaaGreatDoorMw19
import Derived.Test.YtgoemhcngmpfbaaGreatDoorMw39
import Derived.Test.YtgoemhcngmpfbaaGreatDoorMw36

namespace Go.Proofs.YtgoemhcngmpfbaaGreatDoor
open Go.RowKit Go.Sort
set_option linter.unusedSimpArgs false

theorem decS_size (n : Nat) : (decS n).size = (Lib.decDigits n).length := by simp [decS, ByteArray.size]
theorem fits_dec {n : Nat} (h : Fits n) : n < 10 ^ 155 := Nat.lt_of_lt_of_le h (by decide)
theorem decS_le {n : Nat} (h : Fits n) : (decS n).size ≤ 155 := by rw [decS_size]; exact decDigits_le (by decide) (fits_dec h)
/-- What is written so far (t), when q is left. -/
def TD (n q : Nat) (t : ByteArray) : Prop := decS n = decS q ++ t
theorem TD.start (n : Nat) : TD n n ⟨#[]⟩ := (empty_right _).symm
theorem TD.size {n q : Nat} {t : ByteArray} (h : TD n q t) : t.size ≤ (decS n).size := by
  rw [show decS n = decS q ++ t from h, bytes_size_app]; omega
theorem TD.stop {n q : Nat} {t : ByteArray} (h : TD n q t) (h0 : q / 10000000000000000000 = 0) : decS (q % 10000000000000000000) ++ t = decS n := by
  have : q % 10000000000000000000 = q := by omega
  rw [this]
  exact h.symm
theorem TD.step {n q c : Nat} {t : ByteArray} (h : TD n q t) (h0 : q / 10000000000000000000 ≠ 0) (hc : 19 - (decS (q % 10000000000000000000)).size = c) :
    TD n (q / 10000000000000000000) ((((⟨(Lib.repeatL [48] c).toArray⟩ : ByteArray) ++ decS (q % 10000000000000000000))) ++ t) := by
  unfold TD at h ⊢
  rw [h, ← bytes_assoc]
  congr 1
  have e : q = q / 10000000000000000000 * 10 ^ 19 + q % 10000000000000000000 := by
    rw [show (10 : Nat) ^ 19 = 10000000000000000000 by decide]
    omega
  have hr : q % 10000000000000000000 < 10 ^ 19 := Nat.mod_lt _ (by decide)
  have h2 := dec_pieces 19 (q / 10000000000000000000) (q % 10000000000000000000) (by decide) (Nat.pos_of_ne_zero h0) hr
  rw [← e] at h2
  rw [decS_size] at hc
  show (⟨(Lib.decDigits q).toArray⟩ : ByteArray) = ⟨_⟩ ++ (⟨_⟩ ++ ⟨_⟩)
  rw [bytes_app, bytes_app, h2, repeat_zero, ← hc]
  rfl
theorem chunk_small (q : Nat) : (decS (q % 10000000000000000000)).size ≤ 19 := by
  rw [decS_size]
  exact decDigits_le (by decide) (Nat.mod_lt _ (by decide))
theorem chunk_lt {q : Nat} (h : q / 10000000000000000000 ≠ 0) : q / 10000000000000000000 < q := by omega
set_option maxRecDepth 100000 in
set_option maxHeartbeats 4000000 in
theorem decimal_run (n : Nat) (w : World) (hn : Hid (Fits n)) (ht : Hid (Tab w)) :
    Calls Tryz.prog 73 #[wordsV n] w fun e w' => e = .returned (.string (decS n)) ∧ Below w.heap.size w w' := by
  have hN := decS_le hn.out
  obtain ⟨N, hNe⟩ : ∃ N, decS n = N := ⟨_, rfl⟩
  rw [hNe] at hN ⊢
  have HNE := Lib.hid hNe
  clear hNe
  obtain ⟨S, hS⟩ : ∃ S, w.heap.size = S := ⟨_, rfl⟩
  obtain ⟨W, hW⟩ : ∃ W, w.alloc (boxO n 119) = W := ⟨_, rfl⟩
  have A1 := WordsAt.new w n 119
  have B1 := below_alloc w (boxO n 119)
  have z1 : (w.alloc (boxO n 119)).heap.size = S + 1 := by simp [hS]
  rw [show w.alloc (.cells #[.int .u64 (wd n 0 : Int), .int .u64 (wd n 1 : Int), .int .u64 (wd n 2 : Int), .int .u64 (wd n 3 : Int), .int .u64 (wd n 4 : Int), .int .u64 (wd n 5 : Int), .int .u64 (wd n 6 : Int), .int .u64 (wd n 7 : Int)] 119) = W from hW, hS] at A1
  rw [hW, hS] at B1
  rw [hW] at z1
  have HA := Lib.hid A1
  have HB := Lib.hid B1
  have HZ : Hid (S + 1 ≤ W.heap.size) := Nat.le_of_eq z1.symm
  have HT0 : Hid (∀ w', Below S w w' → Tab w') := fun w' hb => ht.out.below (by rw [hS]; exact hb)
  clear A1 B1 z1 ht
  rw [hS]
  unfold wordsV
  go_enter Tryz.func73, Tryz.ntmps73
  go_wp2_with fail
  clear hW
  go_loopg [3] (n + 1) (fun h s3 wr => ∃ (q : Nat) (t : ByteArray), s3 = .string t ∧ Hid (q < h) ∧ Hid (TD n q t) ∧ Hid (Fits q) ∧ Hid (WordsAt wr S 0 q 8) ∧ Hid (Below S w wr) ∧ Hid (S + 1 ≤ wr.heap.size))
  case atStart => exact ⟨n, ⟨#[]⟩, rfl, Nat.lt_succ_self n, TD.start n, hn, HA, HB, HZ⟩
  case round =>
    clear HA HB HZ
    obtain ⟨q, t, rfl, HQ, HD, HF, HA, HB, HZ⟩ := hrel
    have htl : t.size ≤ N.size := by have := HD.out.size; rwa [HNE.out] at this
    have HC := fun V => divide_run q 10000000000000000000 V HF (Nat.lt_of_lt_of_le (show 10000000000000000000 < 18446744073709551616 by decide) (Nat.le_self_pow (by decide) _)) (by decide)
    rw [wordsV_small (show 10000000000000000000 < 18446744073709551616 by decide)] at HC
    have hsr := chunk_small q
    have HST : Hid (q / 10000000000000000000 = 0 → decS (q % 10000000000000000000) ++ t = N) := fun h => by rw [← HNE.out]; exact HD.out.stop h
    have HSP := Lib.hid (fun (h : q / 10000000000000000000 ≠ 0) => HD.out.step h rfl)
    have HFq : Hid (Fits (q / 10000000000000000000)) := Nat.lt_of_le_of_lt (Nat.div_le_self _ _) HF.out
    have HLT : Hid (q / 10000000000000000000 ≠ 0 → q / 10000000000000000000 < q) := fun h => chunk_lt h
    have hr64 : q % 10000000000000000000 < 18446744073709551616 := Nat.lt_trans (Nat.mod_lt _ (by decide)) (by decide)
    generalize hq' : q / 10000000000000000000 = q' at *
    generalize q % 10000000000000000000 = r at *
    clear hq'
    have HFU : Hid (∀ V, Tab V → Calls Tryz.prog 116 #[.int .u64 (wd r 0 : Int), .int .i64 10] V fun e w' => e = .returned (.string (decS r)) ∧ Below V.heap.size V w') := fun V hV => by rw [(wd_small hr64).1]; exact format_run r hr64 V hV
    generalize decS r = dr at *
    obtain ⟨c, hc⟩ : ∃ c, 19 - dr.size = c := ⟨_, rfl⟩
    have hcz : (19 : Int) - (dr.size : Int) = (c : Int) := by omega
    have hc19 : c ≤ 19 := by omega
    have HRP : Hid (∀ V, Calls Tryz.prog 117 #[.string ⟨#[48]⟩, .int .i64 (c : Int)] V fun e w' => e = .returned (.string ⟨(Lib.repeatL [48] c).toArray⟩) ∧ Below V.heap.size V w') := fun V => Tryz.strings_Repeat ⟨#[48]⟩ c V (by omega) (by show 1 * c ≤ _; omega)
    rw [hc] at HSP
    have hrs : (⟨(Lib.repeatL [48] c).toArray⟩ : ByteArray).size = c := by simp [ByteArray.size, Lib.repeatL_length]
    generalize (⟨(Lib.repeatL [48] c).toArray⟩ : ByteArray) = zs at *
    clear hc
    have heq := fun V => eqWords q' 0 V HFq.out (Nat.pow_pos (by decide))
    simp only [wordsV, wd_zero, Int.natCast_zero] at heq
    unfold wordsV at HC
    have HC := Lib.hid HC
    obtain ⟨⟨a0, b0⟩, ⟨a1, b1⟩, ⟨a2, b2⟩, ⟨a3, b3⟩, ⟨a4, b4⟩, ⟨a5, b5⟩, ⟨a6, b6⟩, ⟨a7, b7⟩⟩ := HA.out.eight
    by_cases hq0 : q' = 0
    · have HE := Lib.hid (HST.out hq0)
      rw [decide_eq_true hq0] at heq
      clear HSP HLT HRP hq0
      go_wp2_with fail
      refine (HC.out _).mono ?_
      rintro e w1 ⟨rfl, hw1⟩
      have HZ1 : Hid (S + 1 ≤ w1.heap.size) := Nat.le_trans HZ.out hw1.size
      have B2 : Hid (∀ o p : Obj, Below S w ((w1.alloc o).alloc p)) := fun o p => ((HB.out.trans (hw1.mono (by have := HZ.out; omega))).alloc (by have := HZ1.out; omega) o).alloc (by have := HZ1.out; simp; omega) p
      obtain ⟨R, hR⟩ : ∃ R, w1.heap.size = R := ⟨_, rfl⟩
      have P2 := Lib.hid (two_boxes w1 q' r 119 119)
      rw [hR] at P2
      have HR : Hid (S + 1 ≤ R) := by rw [← hR]; exact HZ1
      clear hw1 HC a0 a1 a2 a3 a4 a5 a6 a7 b0 b1 b2 b3 b4 b5 b6 b7 HA HZ1
      go_wp2_with fail
      refine (HFU.out _ (HT0.out _ (B2.out _ _))).mono ?_
      rintro e w2 ⟨rfl, hw2⟩
      have B3 : Hid (Below S w w2) := (B2.out _ _).trans (hw2.mono (by have := HR.out; simp; omega))
      have K2 : Hid (WordsAt w2 R 0 q' 8) := P2.out.1.keep hw2 (by simp; omega)
      clear hw2 HFU HT0 B2 P2
      obtain ⟨⟨a0, b0⟩, ⟨a1, b1⟩, ⟨a2, b2⟩, ⟨a3, b3⟩, ⟨a4, b4⟩, ⟨a5, b5⟩, ⟨a6, b6⟩, ⟨a7, b7⟩⟩ := K2.out.eight
      clear b0 b1 b2 b3 b4 b5 b6 b7
      go_wp2_with fail
      go_ret
      exact ⟨congrArg (fun x => Ending.returned (.string x)) HE.out, B3.out⟩
    · have HE := Lib.hid (HSP.out hq0)
      have HL := Lib.hid (HLT.out hq0)
      rw [decide_eq_false hq0] at heq
      clear HST HSP HLT hq0
      go_wp2_with fail
      refine (HC.out _).mono ?_
      rintro e w1 ⟨rfl, hw1⟩
      have HZ1 : Hid (S + 1 ≤ w1.heap.size) := Nat.le_trans HZ.out hw1.size
      have B2 : Hid (∀ o p : Obj, Below S w ((w1.alloc o).alloc p)) := fun o p => ((HB.out.trans (hw1.mono (by have := HZ.out; omega))).alloc (by have := HZ1.out; omega) o).alloc (by have := HZ1.out; simp; omega) p
      have A2 : Hid (∀ o p : Obj, WordsAt ((w1.alloc o).alloc p) S 0 q 8) := fun o p => ((HA.out.keep hw1 (by have := HZ.out; omega)).alloc (by have := HZ1.out; omega) o).alloc (by have := HZ1.out; simp; omega) p
      obtain ⟨R, hR⟩ : ∃ R, w1.heap.size = R := ⟨_, rfl⟩
      have P2 := Lib.hid (two_boxes w1 q' r 119 119)
      rw [hR] at P2
      have HR : Hid (S + 1 ≤ R) := by rw [← hR]; exact HZ1
      clear hw1 HC a0 a1 a2 a3 a4 a5 a6 a7 b0 b1 b2 b3 b4 b5 b6 b7 HA HZ1
      go_wp2_with fail
      refine (HFU.out _ (HT0.out _ (B2.out _ _))).mono ?_
      rintro e w2 ⟨rfl, hw2⟩
      have B3 : Hid (Below S w w2) := (B2.out _ _).trans (hw2.mono (by have := HR.out; simp; omega))
      have K2 : Hid (WordsAt w2 R 0 q' 8) := P2.out.1.keep hw2 (by simp; omega)
      have A3 : Hid (WordsAt w2 S 0 q 8) := (A2.out _ _).keep hw2 (by have := HR.out; simp; omega)
      have Z3 : Hid (R + 1 ≤ w2.heap.size) := by have := hw2.size; simp at this; show _ ≤ _; omega
      clear hw2 HFU HT0 B2 A2 P2
      obtain ⟨⟨a0, b0⟩, ⟨a1, b1⟩, ⟨a2, b2⟩, ⟨a3, b3⟩, ⟨a4, b4⟩, ⟨a5, b5⟩, ⟨a6, b6⟩, ⟨a7, b7⟩⟩ := K2.out.eight
      clear b0 b1 b2 b3 b4 b5 b6 b7
      go_wp2_with fail
      refine (HRP.out _).mono ?_
      rintro e w3 ⟨rfl, hw3⟩
      have B4 : Hid (Below S w w3) := B3.out.trans (hw3.mono (by have := Z3.out; have := HR.out; omega))
      have K4 : Hid (WordsAt w3 R 0 q' 8) := K2.out.keep hw3 (by have := Z3.out; omega)
      have A4 : Hid (WordsAt w3 S 0 q 8) := A3.out.keep hw3 (by have := Z3.out; have := HR.out; omega)
      have Z4 : Hid (R + 1 ≤ w3.heap.size) := Nat.le_trans Z3.out hw3.size
      clear hw3 a0 a1 a2 a3 a4 a5 a6 a7
      obtain ⟨⟨a0, b0⟩, ⟨a1, b1⟩, ⟨a2, b2⟩, ⟨a3, b3⟩, ⟨a4, b4⟩, ⟨a5, b5⟩, ⟨a6, b6⟩, ⟨a7, b7⟩⟩ := K4.out.eight
      obtain ⟨⟨c0, d0⟩, ⟨c1, d1⟩, ⟨c2, d2⟩, ⟨c3, d3⟩, ⟨c4, d4⟩, ⟨c5, d5⟩, ⟨c6, d6⟩, ⟨c7, d7⟩⟩ := A4.out.eight
      clear b0 b1 b2 b3 b4 b5 b6 b7
      go_wp2_with fail
      go_roundg q
      case measure => exact HQ.out
      case rel => exact ⟨q', _, rfl, HL.out, HE.out, HFq, st8_at A4.out, (st8_but w3 S q').2.1 S w (Nat.le_refl _) B4.out, by show _ ≤ (st8 w3 S q').heap.size; rw [(st8_but w3 S q').2.2]; have := Z4.out; have := HR.out; omega⟩
set_option maxRecDepth 100000 in
set_option maxHeartbeats 4000000 in
theorem Text_run (s : Bool) (n : Nat) (w : World) (hn : Hid (Fits n)) (ht : Hid (Tab w)) :
    Calls Tryz.prog 33 #[intV s n] w fun e w' => e = .returned (.string (txt s n)) ∧ Below w.heap.size w w' := by
  have HC := Lib.hid (fun W => Canon_run s n W hn)
  have HD : Hid (∀ W, Tab W → Calls Tryz.prog 73 #[wordsV n] W fun e w' => e = .returned (.string (decS n)) ∧ Below W.heap.size W w') := fun W hW => decimal_run n W hn hW
  have HT0 : Hid (∀ w', Below w.heap.size w w' → Tab w') := fun w' hb => ht.out.below hb
  have hsz := decS_le hn.out
  unfold txt
  generalize decS n = x at *
  obtain ⟨z, hz⟩ : ∃ z, sgn s n = z := ⟨_, rfl⟩
  rw [hz] at HC ⊢
  clear hz hn ht
  obtain ⟨S, hS⟩ : ∃ S, w.heap.size = S := ⟨_, rfl⟩
  obtain ⟨W, hW⟩ : ∃ W, w.alloc (boxI s n 25) = W := ⟨_, rfl⟩
  have T1 := IntAt.new w s n 25
  have T2 := below_alloc w (boxI s n 25)
  have T3 : (w.alloc (boxI s n 25)).heap.size = w.heap.size + 1 := by simp
  rw [hW] at T1 T2 T3
  rw [hS] at T1 T2 T3 HT0 ⊢
  have HT := Lib.hid (And.intro T1 (And.intro T2 T3))
  clear T1 T2 T3
  unfold wordsV at HD
  cases z with
  | true =>
    simp only [if_true]
    go_enter Tryz.func33, Tryz.ntmps33
    go_wp2_with (first | (refine wpList_box_int rfl (.tmp 0) rfl rfl ?_) | (refine wpList_load_int rfl (.tmp 1) rfl rfl HT.out.1.o ?_))
    refine (HC.out _).mono ?_
    rintro e w1 ⟨rfl, hw1⟩
    have hz := HT.out.2.2
    have H1 := Lib.hid (HT.out.1.keep hw1 (by omega))
    have B1 := Lib.hid (HT.out.2.1.trans (hw1.mono (by omega)))
    have H2 := Lib.hid (st9_at (t := true) (m := n) H1.out)
    have B2 := Lib.hid ((st9_but w1 S true n).2.1 S w (by omega) B1.out)
    have z2 : S + 1 ≤ (st9 w1 S true n).heap.size := by rw [(st9_but w1 S true n).2.2]; exact Nat.le_trans (Nat.le_of_eq hz.symm) hw1.size
    clear hw1 HT hW HC hz
    obtain ⟨w2, hw2⟩ : ∃ w2, st9 w1 S true n = w2 := ⟨_, rfl⟩
    rw [hw2] at H2 B2 z2
    have Hw2 := Lib.hid hw2
    obtain ⟨⟨a0, x0⟩, ⟨a1, x1⟩, ⟨a2, x2⟩, ⟨a3, x3⟩, ⟨a4, x4⟩, ⟨a5, x5⟩, ⟨a6, x6⟩, ⟨a7, x7⟩, ⟨a8, x8⟩⟩ := H2.out.nine
    clear x0 x1 x2 x3 x4 x5 x6 x7 x8 hw2
    go_upto_region 2 with (refine wpList_store_int rfl (.tmp 1) (.tmp 4) rfl (b := S) (s := true) (n := n) rfl rfl H1.out ?_)
    rw [Hw2.out]
    clear Hw2
    go_wp2_with fail
    refine (HD.out _ (HT0.out _ B2.out)).mono ?_
    rintro e w3 ⟨rfl, hw3⟩
    have B3 := Lib.hid (B2.out.trans (hw3.mono (by omega)))
    clear hw3
    go_wp2_with fail
    go_ret
    exact ⟨rfl, B3.out⟩
  | false =>
    simp only [Bool.false_eq_true, if_false]
    go_enter Tryz.func33, Tryz.ntmps33
    go_wp2_with (first | (refine wpList_box_int rfl (.tmp 0) rfl rfl ?_) | (refine wpList_load_int rfl (.tmp 1) rfl rfl HT.out.1.o ?_))
    refine (HC.out _).mono ?_
    rintro e w1 ⟨rfl, hw1⟩
    have hz := HT.out.2.2
    have H1 := Lib.hid (HT.out.1.keep hw1 (by omega))
    have B1 := Lib.hid (HT.out.2.1.trans (hw1.mono (by omega)))
    have H2 := Lib.hid (st9_at (t := false) (m := n) H1.out)
    have B2 := Lib.hid ((st9_but w1 S false n).2.1 S w (by omega) B1.out)
    have z2 : S + 1 ≤ (st9 w1 S false n).heap.size := by rw [(st9_but w1 S false n).2.2]; exact Nat.le_trans (Nat.le_of_eq hz.symm) hw1.size
    clear hw1 HT hW HC hz
    obtain ⟨w2, hw2⟩ : ∃ w2, st9 w1 S false n = w2 := ⟨_, rfl⟩
    rw [hw2] at H2 B2 z2
    have Hw2 := Lib.hid hw2
    obtain ⟨⟨a0, x0⟩, ⟨a1, x1⟩, ⟨a2, x2⟩, ⟨a3, x3⟩, ⟨a4, x4⟩, ⟨a5, x5⟩, ⟨a6, x6⟩, ⟨a7, x7⟩, ⟨a8, x8⟩⟩ := H2.out.nine
    clear x0 x1 x2 x3 x4 x5 x6 x7 x8 hw2
    go_upto_region 2 with (refine wpList_store_int rfl (.tmp 1) (.tmp 4) rfl (b := S) (s := false) (n := n) rfl rfl H1.out ?_)
    rw [Hw2.out]
    clear Hw2
    go_wp2_with fail
    refine (HD.out _ (HT0.out _ B2.out)).mono ?_
    rintro e w3 ⟨rfl, hw3⟩
    have B3 := Lib.hid (B2.out.trans (hw3.mono (by omega)))
    clear hw3
    go_wp2_with fail
    go_ret
    exact ⟨rfl, B3.out⟩
end Go.Proofs.YtgoemhcngmpfbaaGreatDoor

/-
  The program's text of a ratio, for every ratio.
-/
namespace Go.Proofs.YtgoemhcngmpfbaaGreatDoor
open Go.RowKit Go.Sort
set_option linter.unusedSimpArgs false

theorem txt_le (s : Bool) {n : Nat} (h : Fits n) : (txt s n).size ≤ 156 := by
  have := decS_le h
  unfold txt
  split
  · rw [bytes_size_app]
    have : (⟨#[45]⟩ : ByteArray).size = 1 := rfl
    omega
  · omega
theorem fits_one : Fits 1 := by show 1 < _; decide
/-- A ratio's text. -/
def rtxt (s : Bool) (n : Nat) (t : Bool) (d : Nat) : ByteArray := if sgn t d = false ∧ d = 1 then txt s n else (txt s n ++ (⟨#[47]⟩ : ByteArray)) ++ txt t d
set_option maxRecDepth 100000 in
set_option maxHeartbeats 4000000 in
theorem RText_part (s : Bool) (n : Nat) (t : Bool) (d : Nat) (hn : Hid (Fits n)) (hfd : Hid (Fits d)) (hd1 : ¬ (sgn t d = false ∧ d = 1)) (w : World) (ht : Hid (Tab w)) :
    Calls Tryz.prog 20 #[ratV s n t d] w fun e w' => e = .returned (.string ((txt s n ++ (⟨#[47]⟩ : ByteArray)) ++ txt t d)) ∧ Below w.heap.size w w' := by
  have HC := Lib.hid (fun W => Canon_run t d W hfd)
  have HO := Lib.hid (fun W => Of_run 1 W (by decide) (by decide))
  have hO : intV (decide ((1 : Int) < 0)) (1 : Int).natAbs = intV false 1 := rfl
  rw [hO] at HO
  have E := fun W => eqInt (sgn t d) d false 1 W hfd.out fits_one
  rw [decide_eq_false hd1] at E
  have EG := fun x y W => eqg_int .eql x y (sgn t d) d false 1 W
  have HT0 : Hid (∀ w', Below w.heap.size w w' → Tab w') := fun w' hb => ht.out.below hb
  have HT1 : Hid (∀ W, Tab W → Calls Tryz.prog 33 #[intV s n] W fun e w' => e = .returned (.string (txt s n)) ∧ Below W.heap.size W w') := fun W hW => Text_run s n W hn hW
  have HT2 : Hid (∀ W, Tab W → Calls Tryz.prog 33 #[intV t d] W fun e w' => e = .returned (.string (txt t d)) ∧ Below W.heap.size W w') := fun W hW => Text_run t d W hfd hW
  have hx := txt_le s hn.out
  have hy := txt_le t hfd.out
  generalize txt s n = x at *
  generalize txt t d = y at *
  generalize sgn t d = z at *
  have hxa : x.size + 1 ≤ 9223372036854775807 := by omega
  have hxb : x.size + 1 + y.size ≤ 9223372036854775807 := by omega
  clear hx hy
  clear hfd hO hn hd1 ht
  obtain ⟨S, hS⟩ : ∃ S, w.heap.size = S := ⟨_, rfl⟩
  obtain ⟨W, hW⟩ : ∃ W, w.alloc (boxR s n t d 27) = W := ⟨_, rfl⟩
  have T1 := RatAt.new w s n t d 27
  have T2 := below_alloc w (boxR s n t d 27)
  have T3 : (w.alloc (boxR s n t d 27)).heap.size = w.heap.size + 1 := by simp
  rw [hW] at T1 T2 T3
  rw [hS] at T1 T2 T3 HT0 ⊢
  have HT := Lib.hid (And.intro T1 (And.intro T2 T3))
  clear T1 T2 T3
  go_enter Tryz.func20, Tryz.ntmps20
  go_wp2_with (first | (with_reducible refine wpList_box_rat rfl (.tmp 0) rfl rfl ?_) | (with_reducible refine wpList_load_int rfl (.tmp 3) rfl rfl HT.out.1.den ?_))
  refine (HC.out _).mono ?_
  rintro e w1 ⟨rfl, hw1⟩
  have hz := HT.out.2.2
  have H1 := Lib.hid (HT.out.1.keep hw1 (by omega))
  have B1 := Lib.hid (HT.out.2.1.trans (hw1.mono (by omega)))
  have z1 : S + 1 ≤ w1.heap.size := Nat.le_trans (Nat.le_of_eq hz.symm) hw1.size
  clear hw1 HT hW HC hz
  go_wp2_with fail
  refine (HO.out _).mono ?_
  rintro e w2 ⟨rfl, hw2⟩
  have H2 := Lib.hid (H1.out.keep hw2 (by omega))
  have B2 := Lib.hid (B1.out.trans (hw2.mono (by omega)))
  have z2 : S + 1 ≤ w2.heap.size := Nat.le_trans z1 hw2.size
  clear hw2 H1 B1 HO z1
  go_wp2_with fail
  refine rg_begin (fun W' => RatAt W' S s n t d) (by kernel_rfl) H2.out.drew (fun hS => ?_)
  refine rg_take 0 (.pointer (some ⟨S, 0, none⟩)) rfl (by kernel_rfl) (by kernel_rfl) (by kernel_rfl) (fun _ _ _ h => h) rfl (fun w _ => ?_) hS ?_
  · go_simp
  simp only [List.getElem_toArray, List.getElem_cons_zero, List.getElem_cons_succ, Act.put, List.setIfInBounds_toArray, List.set_cons_zero, List.set_cons_succ]
  refine rg_take 1 (intV s n) rfl (by kernel_rfl) (by kernel_rfl) (by kernel_rfl) (fun _ _ _ h => h) rfl (fun w hSw => ld_int (.tmp 11) rfl rfl hSw.num) hS ?_
  simp only [List.getElem_toArray, List.getElem_cons_zero, List.getElem_cons_succ, Act.put, List.setIfInBounds_toArray, List.set_cons_zero, List.set_cons_succ]
  refine rg_take 4 (.pointer (some ⟨S, 9, none⟩)) rfl (by kernel_rfl) (by kernel_rfl) (by kernel_rfl) (fun _ _ _ h => h) rfl (fun w _ => ?_) hS ?_
  · go_simp
  simp only [List.getElem_toArray, List.getElem_cons_zero, List.getElem_cons_succ, Act.put, List.setIfInBounds_toArray, List.set_cons_zero, List.set_cons_succ]
  refine rg_take 5 (intV t d) rfl (by kernel_rfl) (by kernel_rfl) (by kernel_rfl) (fun _ _ _ h => h) rfl (fun w hSw => ld_int (.tmp 15) rfl rfl hSw.den) hS ?_
  simp only [List.getElem_toArray, List.getElem_cons_zero, List.getElem_cons_succ, Act.put, List.setIfInBounds_toArray, List.set_cons_zero, List.set_cons_succ]
  have hz2 : S + 1 ≤ w2.drew.heap.size := z2
  refine rg_one 2 (by kernel_rfl) (rs_of rfl rfl (wp_call rfl enters_Text rfl (HT1.out _ (HT0.out _ B2.out.drew)) (fun w3 hw3 => ⟨hS.keep hw3 (by omega), ?_⟩)))
  have hS3 := hS.keep hw3 (by omega)
  have B3 := Lib.hid (B2.out.drew.trans (hw3.mono (by omega)))
  have z3 := Nat.le_trans hz2 hw3.size
  clear hS hw3 hz2 B2 H2
  simp only [List.getElem_toArray, List.getElem_cons_zero, List.getElem_cons_succ, Act.put, List.setIfInBounds_toArray, List.set_cons_zero, List.set_cons_succ]
  have hS := hS3
  refine rg_take 3 (.string (x ++ (⟨#[47]⟩ : ByteArray))) rfl (by kernel_rfl) (by kernel_rfl) (by kernel_rfl) (fun _ _ _ h => h) rfl (fun w _ => ?_) hS ?_
  · go_simp
  simp only [List.getElem_toArray, List.getElem_cons_zero, List.getElem_cons_succ, Act.put, List.setIfInBounds_toArray, List.set_cons_zero, List.set_cons_succ]
  refine rg_one 6 (by kernel_rfl) (rs_of rfl rfl (wp_call rfl enters_Text rfl (HT2.out _ (HT0.out _ B3.out)) (fun w4 hw4 => ⟨hS.keep hw4 (by omega), ?_⟩)))
  have hS4 := hS3.keep hw4 (by omega)
  have B4 := Lib.hid (B3.out.trans (hw4.mono (by omega)))
  clear hS hS3 hw4 B3
  simp only [List.getElem_toArray, List.getElem_cons_zero, List.getElem_cons_succ, Act.put, List.setIfInBounds_toArray, List.set_cons_zero, List.set_cons_succ]
  have hS := hS4
  refine rg_take 7 (.string ((x ++ (⟨#[47]⟩ : ByteArray)) ++ y)) rfl (by kernel_rfl) (by kernel_rfl) (by kernel_rfl) (fun _ _ _ h => h) rfl (fun w _ => ?_) hS ?_
  · go_simp
  simp only [List.getElem_toArray, List.getElem_cons_zero, List.getElem_cons_succ, Act.put, List.setIfInBounds_toArray, List.set_cons_zero, List.set_cons_succ]
  refine rg_take 8 (.string ((x ++ (⟨#[47]⟩ : ByteArray)) ++ y)) rfl (by kernel_rfl) (by kernel_rfl) (by kernel_rfl) (fun _ _ _ h => h) rfl (fun w _ => ?_) hS ?_
  · go_simp
  simp only [List.getElem_toArray, List.getElem_cons_zero, List.getElem_cons_succ, Act.put, List.setIfInBounds_toArray, List.set_cons_zero, List.set_cons_succ]
  refine wpAnyH_done (by kernel_rfl) ?_ _
  go_wp2_with fail
  go_ret
  exact ⟨rfl, B4.out⟩
set_option maxRecDepth 100000 in
set_option maxHeartbeats 4000000 in
theorem RText_whole (s : Bool) (n : Nat) (t : Bool) (d : Nat) (hn : Hid (Fits n)) (hd1 : sgn t d = false ∧ d = 1) (w : World) (ht : Hid (Tab w)) :
    Calls Tryz.prog 20 #[ratV s n t d] w fun e w' => e = .returned (.string (txt s n)) ∧ Below w.heap.size w w' := by
  obtain ⟨hz1, rfl⟩ := hd1
  have hfd : Hid (Fits 1) := fits_one
  have HC := Lib.hid (fun W => Canon_run t 1 W hfd)
  have HO := Lib.hid (fun W => Of_run 1 W (by decide) (by decide))
  have hO : intV (decide ((1 : Int) < 0)) (1 : Int).natAbs = intV false 1 := rfl
  rw [hO] at HO
  rw [hz1] at HC
  have E := fun W => eqInt false 1 false 1 W hfd.out fits_one
  rw [decide_eq_true ⟨rfl, rfl⟩] at E
  have EG := fun x y W => eqg_int .eql x y false 1 false 1 W
  have HT0 : Hid (∀ w', Below w.heap.size w w' → Tab w') := fun w' hb => ht.out.below hb
  have HT1 : Hid (∀ W, Tab W → Calls Tryz.prog 33 #[intV s n] W fun e w' => e = .returned (.string (txt s n)) ∧ Below W.heap.size W w') := fun W hW => Text_run s n W hn hW
  generalize txt s n = x at *
  clear hfd hO hn ht hz1
  obtain ⟨S, hS⟩ : ∃ S, w.heap.size = S := ⟨_, rfl⟩
  obtain ⟨W, hW⟩ : ∃ W, w.alloc (boxR s n t 1 27) = W := ⟨_, rfl⟩
  have T1 := RatAt.new w s n t 1 27
  have T2 := below_alloc w (boxR s n t 1 27)
  have T3 : (w.alloc (boxR s n t 1 27)).heap.size = w.heap.size + 1 := by simp
  rw [hW] at T1 T2 T3
  rw [hS] at T1 T2 T3 HT0 ⊢
  have HT := Lib.hid (And.intro T1 (And.intro T2 T3))
  clear T1 T2 T3
  go_enter Tryz.func20, Tryz.ntmps20
  go_wp2_with (first | (with_reducible refine wpList_box_rat rfl (.tmp 0) rfl rfl ?_) | (with_reducible refine wpList_load_int rfl (.tmp 3) rfl rfl HT.out.1.den ?_))
  refine (HC.out _).mono ?_
  rintro e w1 ⟨rfl, hw1⟩
  have hz := HT.out.2.2
  have H1 := Lib.hid (HT.out.1.keep hw1 (by omega))
  have B1 := Lib.hid (HT.out.2.1.trans (hw1.mono (by omega)))
  have z1 : S + 1 ≤ w1.heap.size := Nat.le_trans (Nat.le_of_eq hz.symm) hw1.size
  clear hw1 HT hW HC hz
  go_wp2_with fail
  refine (HO.out _).mono ?_
  rintro e w2 ⟨rfl, hw2⟩
  have H2 := Lib.hid (H1.out.keep hw2 (by omega))
  have B2 := Lib.hid (B1.out.trans (hw2.mono (by omega)))
  clear hw2 H1 B1 HO z1
  go_wp2_with (first | (with_reducible refine wpList_load_int rfl (.tmp 8) rfl rfl H2.out.num ?_))
  refine (HT1.out _ (HT0.out _ B2.out)).mono ?_
  rintro e w3 ⟨rfl, hw3⟩
  have B3 := Lib.hid (B2.out.trans (hw3.mono (by have := B2.out.size; omega)))
  clear hw3
  go_wp2_with fail
  go_ret
  exact ⟨rfl, B3.out⟩
theorem RText_run (s : Bool) (n : Nat) (t : Bool) (d : Nat) (hn : Hid (Fits n)) (hd : Hid (Fits d)) (w : World) (ht : Hid (Tab w)) :
    Calls Tryz.prog 20 #[ratV s n t d] w fun e w' => e = .returned (.string (rtxt s n t d)) ∧ Below w.heap.size w w' := by
  unfold rtxt
  by_cases h : sgn t d = false ∧ d = 1
  · rw [if_pos h]; exact RText_whole s n t d hn h w ht
  · rw [if_neg h]; exact RText_part s n t d hn hd h w ht
end Go.Proofs.YtgoemhcngmpfbaaGreatDoor

/-
  The chapter's example: the numbers.
-/
namespace Go.Proofs.YtgoemhcngmpfbaaGreatDoor
open Go.RowKit Go.Sort
set_option linter.unusedSimpArgs false

theorem sep_of {p : Nat → Bool} {l : List UInt8} (h : (List.range l.length).all (fun i => !(l.getD i 0 == 95) || (decide (0 < i) && decide (i + 1 < l.length) && p (l.getD (i - 1) 0).toNat && p (l.getD (i + 1) 0).toNat)) = true) : Sep p l := by
  intro i hi
  have hil := (List.getElem?_eq_some_iff.1 hi).1
  have := List.all_eq_true.1 h i (List.mem_range.2 hil)
  rw [getD_of hi] at this
  simp only [beq_self_eq_true, Bool.not_true, Bool.false_or, Bool.and_eq_true, decide_eq_true_eq] at this
  obtain ⟨⟨⟨h0, h1⟩, h2⟩, h3⟩ := this
  refine ⟨l.getD (i - 1) 0, l.getD (i + 1) 0, h0, ?_, ?_, h2, h3⟩
  · rw [List.getD_eq_getElem?_getD, List.getElem?_eq_getElem (show i - 1 < l.length by omega)]; rfl
  · rw [List.getD_eq_getElem?_getD, List.getElem?_eq_getElem h1]; rfl
theorem fits_of {n : Nat} (h : n < 100000) : Fits n := Nat.lt_of_lt_of_le h (Nat.le_trans (show 100000 ≤ 18446744073709551616 by decide) (Nat.le_self_pow (by decide) _))
theorem int_ex : IntIs [48, 120, 95, 102, 70] 0 255 := by
  have hk : parK 16 (unsc [95, 102, 70]) = 0 := parK_ok rfl (by decide) (fits_of (by decide))
  exact .inl ⟨by decide, .inr ⟨sep_of (by decide), hk.symm, ((parN_ok hk).trans rfl).symm⟩⟩
theorem float_ok_ex : FloatOk [49, 95, 48, 46, 50, 53, 101, 49] := ⟨sep_of (by decide), rfl, rfl, rfl⟩
theorem scl_ex : scl false 1025 false 1 10 (-1) = ⟨false, 205, 2, 0⟩ := by rfl
theorem float_ex : FloatIs [49, 95, 48, 46, 50, 53, 101, 49] ⟨false, 205, 2, 0⟩ := by
  have hk : parK 10 (ptW [49, 95, 48, 46, 50, 53, 101, 49] ++ ptF [49, 95, 48, 46, 50, 53, 101, 49]) = 0 := parK_ok rfl (by decide) (fits_of (by decide))
  refine .inr ⟨float_ok_ex, .inr ⟨hk, .inr ⟨by decide, ?_⟩⟩⟩
  rw [parN_ok hk]
  exact scl_ex
theorem int_ex2 : IntIs [48, 56] 13 0 := by
  have hk : parK 8 ((unsc [48, 56]).drop 1) = 13 := parK_dig rfl (by decide)
  exact .inr ⟨rfl, .inr ⟨by decide, sep_of (by decide), .inl ⟨by decide, rfl, hk.symm, (parN_no (by rw [hk]; decide)).symm⟩⟩⟩
theorem scan_ex : ScanIs [48, 56] 0 2 2 13 := by
  refine .inr ⟨by decide, by decide, rfl, ⟨by decide, ?_, fun h => absurd h (by decide)⟩, rfl, ⟨false, 0, 0, 13⟩, .inl ⟨rfl, 13, 0, int_ex2, .inl ⟨by decide, rfl⟩⟩, rfl⟩
  intro i hi
  match i, hi with
  | 0, _ => rfl
  | 1, _ => rfl
theorem txt_255 : txt false 255 = ⟨#[50, 53, 53]⟩ := by
  have h : Lib.decDigits 255 = [50, 53, 53] := by rw [Lib.decDigits]; simp; rw [Lib.decDigits]; simp; rw [Lib.decDigits]; simp
  unfold txt decS
  rw [h]
  rfl
theorem txt_205 : rtxt false 205 false 2 = ⟨#[50, 48, 53, 47, 50]⟩ := by
  have h : Lib.decDigits 205 = [50, 48, 53] := by rw [Lib.decDigits]; simp; rw [Lib.decDigits]; simp; rw [Lib.decDigits]; simp
  have h2 : Lib.decDigits 2 = [50] := by rw [Lib.decDigits]; rfl
  unfold rtxt txt decS
  rw [h, h2]
  rfl
end Go.Proofs.YtgoemhcngmpfbaaGreatDoor

/-
  '[]byte("..")' of a constant: the converted literal is the literal, its row's end marked.
-/
namespace Go.Proofs.YtgoemhcngmpfbaaGreatDoor
open Go.RowKit

/-- '[]byte("..")' of a constant: the row's end is marked. -/
theorem conv_lit (w : World) (cs : Array Value) (n c : Nat) : (convert 48 48 (.slice (some ⟨w.heap.size, 0, none⟩) n c)).run Tryz.prog (w.alloc (.cells cs 5)) = .ok (.slice (some ⟨w.heap.size, 0, none⟩) n c) (w.alloc (.cells cs 5 (cs.size, cs.size + 1))) := by
  have hsh : (w.alloc (.cells cs 5)).shape? w.heap.size = some (5, cs.size) := by
    have : (w.alloc (.cells cs 5)).heap[w.heap.size]? = some (.cells cs 5) := by
      show (w.heap.push (.cells cs 5))[w.heap.size]? = _
      simp
    unfold World.shape?
    rw [this]
  have hfr : (w.alloc (.cells cs 5)).freeze ⟨w.heap.size, cs.size, none⟩ 1 = w.alloc (.cells cs 5 (cs.size, cs.size + 1)) := by
    have hm : ∀ (a : Array Obj) (x : Obj) (f : Obj → Obj), (a.push x).modify a.size f = a.push (f x) := by
      intro a x f
      apply Array.ext
      · simp
      · intro i h1 h2
        simp only [Array.getElem_modify, Array.getElem_push]
        by_cases h : a.size = i
        · subst h
          simp
        · have hi : i < a.size := by simp at h1; omega
          simp [h, hi]
    unfold World.freeze
    rw [if_neg (by decide)]
    show ({ w.alloc (.cells cs 5) with heap := (w.heap.push (.cells cs 5)).modify w.heap.size _ } : World) = _
    rw [hm]
    rfl
  simp [convert, run_underlying Tryz.underlying48, run_underlying Tryz.underlying5, markStringish, hsh]
  exact hfr
end Go.Proofs.YtgoemhcngmpfbaaGreatDoor

/-
  The laws' example: works.
-/
namespace Go.Proofs.YtgoemhcngmpfbaaGreatDoor
open Go.RowKit Go.Sort
set_option linter.unusedSimpArgs false

theorem byts_new2 (w : World) (a b : Int) (ha : 0 ≤ a ∧ a ≤ 255) (hb : 0 ≤ b ∧ b ≤ 255) (T : TypeId) (m : Nat × Nat) : Byts (w.alloc (.cells #[.int .u8 a, .int .u8 b] T m)) (w.heap.size + 1) (some ⟨w.heap.size, 0, none⟩) [a, b] :=
  ⟨fun z hz => by simp at hz; omega, fun _ => ⟨_, _, rfl, by omega, fun i x hx => by
    rw [World.cell?_alloc_mark]
    match i, hx with
    | 0, hx => cases hx; rfl
    | 1, hx => cases hx; rfl⟩⟩
set_option maxRecDepth 100000 in
set_option maxHeartbeats 4000000 in
theorem works9_run (w : World) (hm : Hid (Ml w)) (ht : Hid (Tab w)) :
    Calls Tryz.prog 25 #[] w fun e w' => e = .returned (.bool true) ∧ Below w.heap.size w w' := by
  have HI : Hid (∀ V, Ml V → Calls Tryz.prog 26 #[.string ⟨#[48, 120, 95, 102, 70]⟩] V fun e w' => e = .returned (.tuple #[intV false 255, .nilIface]) ∧ Below V.heap.size V w') := fun V hV => Int_run [48, 120, 95, 102, 70] 0 255 V (by decide) int_ex hV
  have HF : Hid (∀ V, Ml V → Calls Tryz.prog 29 #[.string ⟨#[49, 95, 48, 46, 50, 53, 101, 49]⟩] V fun e w' => e = .returned (.tuple #[ratV false 205 false 2, .nilIface]) ∧ Below V.heap.size V w') := fun V hV => Float_run [49, 95, 48, 46, 50, 53, 101, 49] ⟨false, 205, 2, 0⟩ V (by decide) float_ex hV
  have HX : Hid (∀ V, Tab V → Calls Tryz.prog 33 #[intV false 255] V fun e w' => e = .returned (.string ⟨#[50, 53, 53]⟩) ∧ Below V.heap.size V w') := fun V hV => by
    have := Text_run false 255 V (fits_of (by decide)) hV
    rwa [txt_255] at this
  have HY : Hid (∀ V, Tab V → Calls Tryz.prog 20 #[ratV false 205 false 2] V fun e w' => e = .returned (.string ⟨#[50, 48, 53, 47, 50]⟩) ∧ Below V.heap.size V w') := fun V hV => by
    have := RText_run false 205 false 2 (fits_of (by decide)) (fits_of (by decide)) V hV
    rwa [txt_205] at this
  have HCD : Hid (∀ V, Calls Tryz.prog 17 #[.iface 74 (.int .i64 13)] V fun e w' => e = .returned (.int .i64 13) ∧ Below V.heap.size V w') := fun V => code_errV 13 (by decide) V
  have HML : Hid (∀ V, Below w.heap.size w V → Ml V) := fun V hV => hm.out.below hV
  have HTB : Hid (∀ V, Below w.heap.size w V → Tab V) := fun V hV => ht.out.below hV
  obtain ⟨S, hS⟩ : ∃ S, w.heap.size = S := ⟨_, rfl⟩
  have I := Lib.hid (Bs.start w hS)
  rw [hS] at HML HTB
  rw [hS]
  clear ht
  go_enter Tryz.func25, Tryz.ntmps25
  go_wp2_with fail
  refine (HI.out _ hm).mono ?_
  rintro e w1 ⟨rfl, hw⟩
  have I1 := Lib.hid (I.out.below hw)
  clear hw I hm hS
  obtain ⟨N, hN⟩ : ∃ N, w1.heap.size = N := ⟨_, rfl⟩
  have J2 := I1.out.pushIntZ hN 25
  obtain ⟨a1, ha⟩ : ∃ x, w1.alloc (boxIZ 25) = x := ⟨_, rfl⟩
  rw [ha] at J2
  have H2 := Lib.hid (J2.int 0 rfl)
  have I2 := Lib.hid (J2.putInt 0 rfl false 255 rfl)
  clear J2 I1
  go_upto_region 2 with (with_reducible refine wpList_store_int rfl (.tmp 1) (.tmp 10) rfl (b := N) (s := false) (n := 255) rfl rfl H2.out ?_)
  clear H2 ha hN
  generalize st9 a1 N false 255 = w2 at *
  go_wp2_with fail
  refine (HF.out _ (HML.out _ I2.out.bl)).mono ?_
  rintro e w3 ⟨rfl, hw⟩
  have I3 := Lib.hid (I2.out.below hw)
  clear hw I2
  obtain ⟨R, hR⟩ : ∃ R, w3.heap.size = R := ⟨_, rfl⟩
  have J4 := I3.out.pushRatZ hR 27
  obtain ⟨a3, ha⟩ : ∃ x, w3.alloc (boxRZ 27) = x := ⟨_, rfl⟩
  rw [ha] at J4
  have H4 := Lib.hid (J4.rat 0 rfl)
  have I4 := Lib.hid (J4.putRat 0 rfl false 205 false 2 rfl)
  clear J4 I3
  go_upto_region 3 with (with_reducible refine wpList_store_rat rfl (.tmp 3) (.tmp 14) rfl (b := R) (s := false) (n := 205) (t := false) (d := 2) rfl rfl H4.out ?_)
  clear H4 ha hR
  generalize st18 a3 R false 205 false 2 = w4 at *
  have hcl := conv_lit w4 #[.int .u8 48, .int .u8 56] 2 2
  simp at hcl
  have I5 := Lib.hid (I4.out.alloc (.cells #[.int .u8 48, .int .u8 56] 5 (2, 3)))
  have HB := Lib.hid (byts_new2 w4 48 56 (by omega) (by omega) 5 (2, 3))
  have HSC := Lib.hid (Scan_run (some ⟨w4.heap.size, 0, none⟩) 2 2 0 [48, 56] 2 2 13 (w4.alloc (.cells #[.int .u8 48, .int .u8 56] 5 (2, 3))) (w4.heap.size + 1) HB.out (by simp) rfl (by decide) (by decide) scan_ex (HML.out _ I5.out.bl))
  clear I4 HB
  go_wp2_with fail
  refine HSC.out.mono ?_
  rintro e w6 ⟨rfl, hw⟩
  have I6 := Lib.hid (I5.out.below hw)
  have hV : scanV 2 2 13 = .tuple #[.int .i64 2, .int .i64 2, .iface 74 (.int .i64 13)] := rfl
  rw [hV]
  clear hw I5 HSC hV hcl
  have HL := Lib.hid (I6.out.int 1 rfl)
  go_wp2_with (with_reducible refine wpList_val (v := intV false 255) rfl (ld_int (.tmp 1) rfl rfl HL.out.o) ?_)
  refine (HX.out _ (HTB.out _ I6.out.bl)).mono ?_
  rintro e w7 ⟨rfl, hw⟩
  have I7 := Lib.hid (I6.out.below hw)
  clear hw I6 HL
  have HL := Lib.hid (I7.out.rat 0 rfl)
  go_wp2_with (with_reducible refine wpList_val (v := ratV false 205 false 2) rfl (ld_rat (.tmp 3) rfl rfl HL.out) ?_)
  refine (HY.out _ (HTB.out _ I7.out.bl)).mono ?_
  rintro e w8 ⟨rfl, hw⟩
  have I8 := Lib.hid (I7.out.below hw)
  clear hw I7 HL
  go_wp2_with fail
  refine (HCD.out _).mono ?_
  rintro e w9 ⟨rfl, hw⟩
  have I9 := Lib.hid (I8.out.below hw)
  clear hw I8
  go_wp2_with fail
  go_ret
  exact ⟨rfl, I9.out.bl⟩
end Go.Proofs.YtgoemhcngmpfbaaGreatDoor
