/-
  Stage 7: limb's Div at a divisor that is not 0.
-/
import Derived.Test.YtbcnpajdmlbieaaDoorLmS
import Derived.Deep.RegionHeld3
namespace Go.Proofs.YtbcnpajdmlbieaaDoor
open Go.RowKit Go.Sort

/-- What Div's last statement reads. -/
theorem div_cells {W : World} {S R n m q r : Nat} {s t : Bool} (I1 : IntAt W S s n) (I2 : IntAt W (S + 1) t m) (P1 : WordsAt W R 0 q 8) (P2 : WordsAt W (R + 1) 0 r 8) :
    W.cell? ⟨S, 0, none⟩ = some (.bool s) ∧ W.cell? ⟨S + 1, 0, none⟩ = some (.bool t) ∧ W.cell? ⟨R, 0, none⟩ = some (.int .u64 (wd q 0 : Int)) ∧ W.cell? ⟨R, 1, none⟩ = some (.int .u64 (wd q 1 : Int)) ∧ W.cell? ⟨R, 2, none⟩ = some (.int .u64 (wd q 2 : Int)) ∧ W.cell? ⟨R, 3, none⟩ = some (.int .u64 (wd q 3 : Int)) ∧ W.cell? ⟨R, 4, none⟩ = some (.int .u64 (wd q 4 : Int)) ∧ W.cell? ⟨R, 5, none⟩ = some (.int .u64 (wd q 5 : Int)) ∧ W.cell? ⟨R, 6, none⟩ = some (.int .u64 (wd q 6 : Int)) ∧ W.cell? ⟨R, 7, none⟩ = some (.int .u64 (wd q 7 : Int)) ∧ W.cell? ⟨R + 1, 0, none⟩ = some (.int .u64 (wd r 0 : Int)) ∧ W.cell? ⟨R + 1, 1, none⟩ = some (.int .u64 (wd r 1 : Int)) ∧ W.cell? ⟨R + 1, 2, none⟩ = some (.int .u64 (wd r 2 : Int)) ∧ W.cell? ⟨R + 1, 3, none⟩ = some (.int .u64 (wd r 3 : Int)) ∧ W.cell? ⟨R + 1, 4, none⟩ = some (.int .u64 (wd r 4 : Int)) ∧ W.cell? ⟨R + 1, 5, none⟩ = some (.int .u64 (wd r 5 : Int)) ∧ W.cell? ⟨R + 1, 6, none⟩ = some (.int .u64 (wd r 6 : Int)) ∧ W.cell? ⟨R + 1, 7, none⟩ = some (.int .u64 (wd r 7 : Int)) := by
  obtain ⟨⟨a0, _⟩, ⟨a1, _⟩, ⟨a2, _⟩, ⟨a3, _⟩, ⟨a4, _⟩, ⟨a5, _⟩, ⟨a6, _⟩, ⟨a7, _⟩⟩ := P1.eight
  obtain ⟨⟨c0, _⟩, ⟨c1, _⟩, ⟨c2, _⟩, ⟨c3, _⟩, ⟨c4, _⟩, ⟨c5, _⟩, ⟨c6, _⟩, ⟨c7, _⟩⟩ := P2.eight
  exact ⟨I1.sign, I2.sign, a0, a1, a2, a3, a4, a5, a6, a7, c0, c1, c2, c3, c4, c5, c6, c7⟩

set_option maxRecDepth 100000 in
set_option maxHeartbeats 4000000 in
theorem Div_pos (s : Bool) (n : Nat) (t : Bool) (m : Nat) (w : World) (hn : Hid (Fits n)) (hm : Hid (Fits m)) (hm0 : 0 < m) :
    Calls Tryd.prog 41 #[intV s n, intV t m] w fun e w' => e = .returned (.tuple #[intV (sgn (s != t) (n / m)) (n / m), intV (sgn s (n % m)) (n % m), .nilIface]) ∧ Below w.heap.size w w' := by
  obtain ⟨S, hS⟩ : ∃ S, w.heap.size = S := ⟨_, rfl⟩
  obtain ⟨W, hW⟩ : ∃ W, (((w.alloc (boxI s n 25)).alloc (boxI t m 25)).alloc (boxIZ 25)).alloc (boxIZ 25) = W := ⟨_, rfl⟩
  have T := four_ints w s n t m 25 25 25 25
  rw [hW, hS] at T
  have HT := Lib.hid T
  obtain ⟨⟨a0, b0⟩, ⟨a1, b1⟩, ⟨a2, b2⟩, ⟨a3, b3⟩, ⟨a4, b4⟩, ⟨a5, b5⟩, ⟨a6, b6⟩, ⟨a7, b7⟩, ⟨a8, b8⟩⟩ := T.1.nine
  obtain ⟨⟨c0, d0⟩, ⟨c1, d1⟩, ⟨c2, d2⟩, ⟨c3, d3⟩, ⟨c4, d4⟩, ⟨c5, d5⟩, ⟨c6, d6⟩, ⟨c7, d7⟩, ⟨c8, d8⟩⟩ := T.2.1.nine
  clear T
  rw [hS]
  have k4 : ∀ x, x < S + 1 + 1 + 1 + 1 → x < W.heap.size := fun x hx => Nat.lt_of_lt_of_eq hx HT.out.2.2.2.2.2.symm
  have heq := fun W => eqWords' m 0 W hm.out (Nat.pow_pos (by decide))
  rw [decide_eq_false (by omega)] at heq
  simp only [wordsV, wd_zero, Int.natCast_zero] at heq
  have HC := Lib.hid (fun W => divide_run n m W hn hm hm0)
  have hfq : Fits (n / m) := Nat.lt_of_le_of_lt (Nat.div_le_self _ _) hn.out
  have hfr : Fits (n % m) := Nat.lt_trans (Nat.mod_lt _ hm0) hm.out
  obtain ⟨q, hq⟩ : ∃ q, n / m = q := ⟨_, rfl⟩
  obtain ⟨r, hr⟩ : ∃ r, n % m = r := ⟨_, rfl⟩
  obtain ⟨x, hx⟩ : ∃ x, (s != t) = x := ⟨_, rfl⟩
  have hx3 : (s == t) = (!x) := by rw [← hx]; cases s <;> cases t <;> rfl
  rw [hq, hr] at HC ⊢
  rw [hq] at hfq
  rw [hr] at hfr
  rw [hx]
  have HS1 := Lib.hid (fun W => signed_run x q W hfq)
  have HS2 := Lib.hid (fun W => signed_run s r W hfr)
  obtain ⟨z, hz⟩ : ∃ z, sgn x q = z := ⟨_, rfl⟩
  obtain ⟨y, hy⟩ : ∃ y, sgn s r = y := ⟨_, rfl⟩
  rw [hz] at HS1 ⊢
  rw [hy] at HS2 ⊢
  clear hz hy hq hr hfq hfr hn hm hm0
  unfold wordsV at HC
  unfold wordsV intV at HS1 HS2
  unfold intV
  go_enter Tryd.func41, Tryd.ntmps41
  go_wp2_with fail
  refine (HC.out _).mono ?_
  rintro e w1 ⟨rfl, hw1⟩
  have I1 := HT.out.1.keep hw1 (k4 _ (by omega))
  have I2 := HT.out.2.1.keep hw1 (k4 _ (by omega))
  have I3 := HT.out.2.2.1.keep hw1 (k4 _ (by omega))
  have I4 := HT.out.2.2.2.1.keep hw1 (k4 _ (by omega))
  have B1 : Below S w w1 := HT.out.2.2.2.2.1.trans (hw1.mono (Nat.le_of_lt (k4 _ (by omega))))
  have z1 : S + 1 + 1 + 1 + 1 ≤ w1.heap.size := by have := hw1.size; rw [HT.out.2.2.2.2.2] at this; exact this
  obtain ⟨R, hR⟩ : ∃ R, w1.heap.size = R := ⟨_, rfl⟩
  rw [hR] at z1
  have hs1 : (w1.alloc (boxO q 61)).heap.size = R + 1 := by simp [hR]
  have hs2 : ((w1.alloc (boxO q 61)).alloc (boxO r 61)).heap.size = R + 1 + 1 := by simp [hR]
  have P2 := two_boxes w1 q r 61 61
  rw [hR] at P2
  have J1 := (I1.alloc (by omega) (boxO q 61)).alloc (by omega) (boxO r 61)
  have J2 := (I2.alloc (by omega) (boxO q 61)).alloc (by omega) (boxO r 61)
  have J3 := (I3.alloc (by omega) (boxO q 61)).alloc (by omega) (boxO r 61)
  have J4 := (I4.alloc (by omega) (boxO q 61)).alloc (by omega) (boxO r 61)
  have BX : Below S w ((w1.alloc (boxO q 61)).alloc (boxO r 61)) := (B1.alloc (by omega) _).alloc (by omega) _
  obtain ⟨wx, hwx⟩ : ∃ wx, (w1.alloc (boxO q 61)).alloc (boxO r 61) = wx := ⟨_, rfl⟩
  rw [hwx] at P2 J1 J2 J3 J4 BX hs2
  clear hw1 k4 HT hW HC heq I1 I2 I3 I4 B1 hs1 a0 a1 a2 a3 a4 a5 a6 a7 a8 b0 b1 b2 b3 b4 b5 b6 b7 b8 c0 c1 c2 c3 c4 c5 c6 c7 c8 d0 d1 d2 d3 d4 d5 d6 d7 d8
  go_upto_region 4 with fail
  have HK : Hid (∀ w2, Below wx.drew.heap.size wx.drew w2 → IntAt w2 S s n ∧ IntAt w2 (S + 1) t m ∧ IntAt w2 (S + 1 + 1) false 0 ∧ IntAt w2 (S + 1 + 1 + 1) false 0 ∧ WordsAt w2 R 0 q 8 ∧ WordsAt w2 (R + 1) 0 r 8 ∧ Below S w w2 ∧ R + 1 + 1 ≤ w2.heap.size) := fun w2 hw2 => by
    have hd : wx.drew.heap.size = R + 1 + 1 := hs2
    exact ⟨J1.drew.keep hw2 (by omega), J2.drew.keep hw2 (by omega), J3.drew.keep hw2 (by omega), J4.drew.keep hw2 (by omega), WordsF.keep (w := wx.drew) P2.1 hw2 (by omega), WordsF.keep (w := wx.drew) P2.2.1 hw2 (by omega), BX.drew.trans (hw2.mono (by omega)), by have := hw2.size; omega⟩
  have D0 := Lib.hid (div_cells J1.drew J2.drew (show WordsAt wx.drew R 0 q 8 from P2.1) (show WordsAt wx.drew (R + 1) 0 r 8 from P2.2.1))
  have hRn : S + 1 + 1 + 1 + 1 ≤ R := z1
  have hxs : (s != t) = x := hx
  clear hwx P2 J1 J2 J3 J4 BX hs2 hR
  go_region_held3 (fun W' => W'.cell? ⟨S, 0, none⟩ = some (.bool s) ∧ W'.cell? ⟨S + 1, 0, none⟩ = some (.bool t) ∧ W'.cell? ⟨R, 0, none⟩ = some (.int .u64 (wd q 0 : Int)) ∧ W'.cell? ⟨R, 1, none⟩ = some (.int .u64 (wd q 1 : Int)) ∧ W'.cell? ⟨R, 2, none⟩ = some (.int .u64 (wd q 2 : Int)) ∧ W'.cell? ⟨R, 3, none⟩ = some (.int .u64 (wd q 3 : Int)) ∧ W'.cell? ⟨R, 4, none⟩ = some (.int .u64 (wd q 4 : Int)) ∧ W'.cell? ⟨R, 5, none⟩ = some (.int .u64 (wd q 5 : Int)) ∧ W'.cell? ⟨R, 6, none⟩ = some (.int .u64 (wd q 6 : Int)) ∧ W'.cell? ⟨R, 7, none⟩ = some (.int .u64 (wd q 7 : Int)) ∧ W'.cell? ⟨R + 1, 0, none⟩ = some (.int .u64 (wd r 0 : Int)) ∧ W'.cell? ⟨R + 1, 1, none⟩ = some (.int .u64 (wd r 1 : Int)) ∧ W'.cell? ⟨R + 1, 2, none⟩ = some (.int .u64 (wd r 2 : Int)) ∧ W'.cell? ⟨R + 1, 3, none⟩ = some (.int .u64 (wd r 3 : Int)) ∧ W'.cell? ⟨R + 1, 4, none⟩ = some (.int .u64 (wd r 4 : Int)) ∧ W'.cell? ⟨R + 1, 5, none⟩ = some (.int .u64 (wd r 5 : Int)) ∧ W'.cell? ⟨R + 1, 6, none⟩ = some (.int .u64 (wd r 6 : Int)) ∧ W'.cell? ⟨R + 1, 7, none⟩ = some (.int .u64 (wd r 7 : Int))) (first | with_reducible exact D0.out | with_reducible exact D2.out | with_reducible exact D3.out | with_reducible exact D4.out | with_reducible exact D5.out)
    (first
      | (go_at_call 36; have HLL := HL; clear HLL; refine (HS2.out _).mono ?_; rintro e w3 ⟨rfl, hw3⟩; have D3 := Lib.hid (div_cells (HL.out.1.keep hw3 (by omega)) (HL.out.2.1.keep hw3 (by omega)) (HL.out.2.2.2.2.1.keep hw3 (by omega)) (HL.out.2.2.2.2.2.keep hw3 (by omega))); have M3 := Lib.hid (HL.out.2.2.1.keep hw3 (by omega)); have M4 := Lib.hid (HL.out.2.2.2.1.keep hw3 (by omega)); have MB := Lib.hid (HLB.out.trans (hw3.mono (by omega))); obtain ⟨⟨g0, h0⟩, ⟨g1, h1⟩, ⟨g2, h2⟩, ⟨g3, h3⟩, ⟨g4, h4⟩, ⟨g5, h5⟩, ⟨g6, h6⟩, ⟨g7, h7⟩, ⟨g8, h8⟩⟩ := M3.out.nine; obtain ⟨⟨i0, j0⟩, ⟨i1, j1⟩, ⟨i2, j2⟩, ⟨i3, j3⟩, ⟨i4, j4⟩, ⟨i5, j5⟩, ⟨i6, j6⟩, ⟨i7, j7⟩, ⟨i8, j8⟩⟩ := M4.out.nine; have d4 := div_cells ((HL.out.1.keep hw3 (by omega)).but (st9_but w3 (S + 1 + 1) z q) (by omega)) ((HL.out.2.1.keep hw3 (by omega)).but (st9_but w3 (S + 1 + 1) z q) (by omega)) ((HL.out.2.2.2.2.1.keep hw3 (by omega)).but (st9_but w3 (S + 1 + 1) z q) (by omega)) ((HL.out.2.2.2.2.2.keep hw3 (by omega)).but (st9_but w3 (S + 1 + 1) z q) (by omega)); unfold st9 at d4; have D4 := Lib.hid d4; clear d4; have d5 := div_cells (((HL.out.1.keep hw3 (by omega)).but (st9_but w3 (S + 1 + 1) z q) (by omega)).but (st9_but (st9 w3 (S + 1 + 1) z q) (S + 1 + 1 + 1) y r) (by omega)) (((HL.out.2.1.keep hw3 (by omega)).but (st9_but w3 (S + 1 + 1) z q) (by omega)).but (st9_but (st9 w3 (S + 1 + 1) z q) (S + 1 + 1 + 1) y r) (by omega)) (((HL.out.2.2.2.2.1.keep hw3 (by omega)).but (st9_but w3 (S + 1 + 1) z q) (by omega)).but (st9_but (st9 w3 (S + 1 + 1) z q) (S + 1 + 1 + 1) y r) (by omega)) (((HL.out.2.2.2.2.2.keep hw3 (by omega)).but (st9_but w3 (S + 1 + 1) z q) (by omega)).but (st9_but (st9 w3 (S + 1 + 1) z q) (S + 1 + 1 + 1) y r) (by omega)); unfold st9 at d5; have D5 := Lib.hid d5; clear d5; clear hw3)
      | (go_at_call 36; refine (HS1.out _).mono ?_; rintro e w2 ⟨rfl, hw2⟩; obtain ⟨L1, L2, L3, L4, L5, L6, LB, lz⟩ := HK.out _ hw2; have HL := Lib.hid (And.intro L1 (And.intro L2 (And.intro L3 (And.intro L4 (And.intro L5 L6))))); have HLB := Lib.hid LB; have D2 := Lib.hid (div_cells L1 L2 L5 L6); clear L1 L2 L3 L4 L5 L6 LB hw2))
  all_goals go_wp2_with fail
  all_goals refine bodyPost_ret (v := .tuple #[intV z q, intV y r, .nilIface]) (by rw [results_cell2_tmp rfl]; go_simp; exact ⟨rfl, rfl⟩) rfl ⟨rfl, ?_⟩
  all_goals exact (st9_but (st9 w3 (S + 1 + 1) z q) (S + 1 + 1 + 1) y r).2.1 S w (by omega) ((st9_but w3 (S + 1 + 1) z q).2.1 S w (by omega) MB.out)
end Go.Proofs.YtbcnpajdmlbieaaDoor
