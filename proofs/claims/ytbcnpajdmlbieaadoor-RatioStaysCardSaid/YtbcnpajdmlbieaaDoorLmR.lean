/-
  Stage 7: limb's Gcd.
-/
import Derived.Test.YtbcnpajdmlbieaaDoorLmO
namespace Go.Proofs.YtbcnpajdmlbieaaDoor
open Go.RowKit Go.Sort

theorem WordsF.drew1 {w : World} {b o k : Nat} {f : Nat → Nat} (h : WordsF w b o f k) : WordsF w.drew b o f k := h
theorem drew_size (w : World) : w.drew.heap.size = w.heap.size := rfl
/-- Eight stores. -/
def st8 (w : World) (b n : Nat) : World := ((((((((w.setCell ⟨b, 0, none⟩ (.int .u64 (wd n 0 : Int))).setCell ⟨b, 1, none⟩ (.int .u64 (wd n 1 : Int))).setCell ⟨b, 2, none⟩ (.int .u64 (wd n 2 : Int))).setCell ⟨b, 3, none⟩ (.int .u64 (wd n 3 : Int))).setCell ⟨b, 4, none⟩ (.int .u64 (wd n 4 : Int))).setCell ⟨b, 5, none⟩ (.int .u64 (wd n 5 : Int))).setCell ⟨b, 6, none⟩ (.int .u64 (wd n 6 : Int))).setCell ⟨b, 7, none⟩ (.int .u64 (wd n 7 : Int)))
theorem st8_but (w : World) (b n : Nat) : But1 w (st8 w b n) b := But1.set8 w b _ _ _ _ _ _ _ _
theorem st8_at {w : World} {b n : Nat} {f : Nat → Nat} (h : WordsF w b 0 f 8) : WordsAt (st8 w b n) b 0 n 8 := h.set8 (g := wd n)
set_option maxRecDepth 100000 in
set_option maxHeartbeats 4000000 in
theorem Gcd_run (s : Bool) (n : Nat) (t : Bool) (m : Nat) (w : World) (hn : Hid (Fits n)) (hm : Hid (Fits m)) :
    Calls Tryd.prog 26 #[intV s n, intV t m] w fun e w' => e = .returned (intV false (Nat.gcd n m)) ∧ Below w.heap.size w w' := by
  obtain ⟨S, hS⟩ : ∃ S, w.heap.size = S := ⟨_, rfl⟩
  obtain ⟨W, hW⟩ : ∃ W, ((w.alloc (boxI s n 25)).alloc (boxI t m 25)).alloc (boxIZ 25) = W := ⟨_, rfl⟩
  have T := three_ints w s n t m 25 25 25
  rw [hW, hS] at T
  have HT := Lib.hid T
  obtain ⟨⟨a0, b0⟩, ⟨a1, b1⟩, ⟨a2, b2⟩, ⟨a3, b3⟩, ⟨a4, b4⟩, ⟨a5, b5⟩, ⟨a6, b6⟩, ⟨a7, b7⟩, ⟨a8, b8⟩⟩ := T.1.nine
  obtain ⟨⟨c0, d0⟩, ⟨c1, d1⟩, ⟨c2, d2⟩, ⟨c3, d3⟩, ⟨c4, d4⟩, ⟨c5, d5⟩, ⟨c6, d6⟩, ⟨c7, d7⟩, ⟨c8, d8⟩⟩ := T.2.1.nine
  clear T
  rw [hS]
  obtain ⟨g, hg⟩ : ∃ g, Nat.gcd n m = g := ⟨_, rfl⟩
  rw [hg]
  have HG0 := Lib.hid hg
  clear hg
  unfold intV
  go_enter Tryd.func26, Tryd.ntmps26
  have hWs : W.heap.size = S + 1 + 1 + 1 := HT.out.2.2.2.2
  have hWa : (W.alloc (boxZ 61)).heap.size = S + 1 + 1 + 1 + 1 := by simp [hWs]
  have A1 := HT.out.1.alloc (by omega) (boxZ 61)
  have A2 := A1.alloc (by omega) (boxZ 61)
  have C1 := HT.out.2.1.alloc (by omega) (boxZ 61)
  have C2 := C1.alloc (by omega) (boxZ 61)
  obtain ⟨⟨p0, p0'⟩, ⟨p1, p1'⟩, ⟨p2, p2'⟩, ⟨p3, p3'⟩, ⟨p4, p4'⟩, ⟨p5, p5'⟩, ⟨p6, p6'⟩, ⟨p7, p7'⟩⟩ := A1.drew.words.eightAt1
  obtain ⟨⟨q0, q0'⟩, ⟨q1, q1'⟩, ⟨q2, q2'⟩, ⟨q3, q3'⟩, ⟨q4, q4'⟩, ⟨q5, q5'⟩, ⟨q6, q6'⟩, ⟨q7, q7'⟩⟩ := A2.drew.words.eightAt1
  obtain ⟨⟨x0, x0'⟩, ⟨x1, x1'⟩, ⟨x2, x2'⟩, ⟨x3, x3'⟩, ⟨x4, x4'⟩, ⟨x5, x5'⟩, ⟨x6, x6'⟩, ⟨x7, x7'⟩⟩ := C1.drew.words.eightAt1
  obtain ⟨⟨y0, y0'⟩, ⟨y1, y1'⟩, ⟨y2, y2'⟩, ⟨y3, y3'⟩, ⟨y4, y4'⟩, ⟨y5, y5'⟩, ⟨y6, y6'⟩, ⟨y7, y7'⟩⟩ := C2.drew.words.eightAt1
  clear A1 A2 C1 C2
  go_wp2_with fail
  go_region
  all_goals go_upto_region 2 with fail
  all_goals first
  | (have hz1 : (W.alloc (boxO n 61)).heap.size = S + 1 + 1 + 1 + 1 := by simp [hWs]
     have hz2 : ((W.alloc (boxO n 61)).alloc (boxO m 61)).heap.size = S + 1 + 1 + 1 + 1 + 1 := by simp [hWs]
     show Code.wp _ _ _ _ ((W.alloc (boxO n 61)).alloc (boxO m 61)).drew
     have P2 := two_boxes W n m 61 61
     rw [hWs] at P2
     have KX := Lib.hid (show WordsAt ((W.alloc (boxO n 61)).alloc (boxO m 61)).drew (S + 1 + 1 + 1) 0 n 8 from P2.1)
     have KY := Lib.hid (show WordsAt ((W.alloc (boxO n 61)).alloc (boxO m 61)).drew (S + 1 + 1 + 1 + 1) 0 m 8 from P2.2.1)
     have KZ := Lib.hid ((HT.out.2.2.1.alloc (by omega) (boxO n 61)).alloc (by omega) (boxO m 61)).drew
     have KB : Hid (Below S w ((W.alloc (boxO n 61)).alloc (boxO m 61)).drew) := ((HT.out.2.2.2.1.alloc (by omega) _).alloc (by omega) _).drew
     have Ks : Hid (((W.alloc (boxO n 61)).alloc (boxO m 61)).drew.heap.size = S + 1 + 1 + 1 + 1 + 1) := hz2
     generalize ((W.alloc (boxO n 61)).alloc (boxO m 61)).drew = wx at *
     obtain ⟨X, hX⟩ : ∃ X, (S + 1 + 1 + 1) = X := ⟨_, rfl⟩
     obtain ⟨Y, hY⟩ : ∃ Y, (S + 1 + 1 + 1 + 1) = Y := ⟨_, rfl⟩
     have HXY : Hid (X ≠ Y ∧ X ≠ S + 1 + 1 ∧ Y ≠ S + 1 + 1 ∧ X < S + 1 + 1 + 1 + 1 + 1 ∧ Y < S + 1 + 1 + 1 + 1 + 1 ∧ S ≤ X ∧ S ≤ Y) := by show _ ∧ _; omega
     rw [hY, hX]
     rw [hX] at KX
     rw [hY] at KY
     clear P2 hz1 hz2 hX hY)
  | (have hz1 : (W.alloc (boxO m 61)).heap.size = S + 1 + 1 + 1 + 1 := by simp [hWs]
     have hz2 : ((W.alloc (boxO m 61)).alloc (boxO n 61)).heap.size = S + 1 + 1 + 1 + 1 + 1 := by simp [hWs]
     show Code.wp _ _ _ _ ((W.alloc (boxO m 61)).alloc (boxO n 61)).drew
     have P2 := two_boxes W m n 61 61
     rw [hWs] at P2
     have KX := Lib.hid (show WordsAt ((W.alloc (boxO m 61)).alloc (boxO n 61)).drew (S + 1 + 1 + 1 + 1) 0 n 8 from P2.2.1)
     have KY := Lib.hid (show WordsAt ((W.alloc (boxO m 61)).alloc (boxO n 61)).drew (S + 1 + 1 + 1) 0 m 8 from P2.1)
     have KZ := Lib.hid ((HT.out.2.2.1.alloc (by omega) (boxO m 61)).alloc (by omega) (boxO n 61)).drew
     have KB : Hid (Below S w ((W.alloc (boxO m 61)).alloc (boxO n 61)).drew) := ((HT.out.2.2.2.1.alloc (by omega) _).alloc (by omega) _).drew
     have Ks : Hid (((W.alloc (boxO m 61)).alloc (boxO n 61)).drew.heap.size = S + 1 + 1 + 1 + 1 + 1) := hz2
     generalize ((W.alloc (boxO m 61)).alloc (boxO n 61)).drew = wx at *
     obtain ⟨X, hX⟩ : ∃ X, (S + 1 + 1 + 1 + 1) = X := ⟨_, rfl⟩
     obtain ⟨Y, hY⟩ : ∃ Y, (S + 1 + 1 + 1) = Y := ⟨_, rfl⟩
     have HXY : Hid (X ≠ Y ∧ X ≠ S + 1 + 1 ∧ Y ≠ S + 1 + 1 ∧ X < S + 1 + 1 + 1 + 1 + 1 ∧ Y < S + 1 + 1 + 1 + 1 + 1 ∧ S ≤ X ∧ S ≤ Y) := by show _ ∧ _; omega
     rw [hX, hY]
     rw [hX] at KX
     rw [hY] at KY
     clear P2 hz1 hz2 hX hY)
  all_goals
    clear HT hW hWs hWa a0 a1 a2 a3 a4 a5 a6 a7 a8 b0 b1 b2 b3 b4 b5 b6 b7 b8 c0 c1 c2 c3 c4 c5 c6 c7 c8 d0 d1 d2 d3 d4 d5 d6 d7 d8 p0 p1 p2 p3 p4 p5 p6 p7 p0' p1' p2' p3' p4' p5' p6' p7' q0 q1 q2 q3 q4 q5 q6 q7 q0' q1' q2' q3' q4' q5' q6' q7' x0 x1 x2 x3 x4 x5 x6 x7 x0' x1' x2' x3' x4' x5' x6' x7' y0 y1 y2 y3 y4 y5 y6 y7 y0' y1' y2' y3' y4' y5' y6' y7'
    go_wp2_with fail
    go_loopg [16] (m + 1) (fun h s16 wr => ∃ (x y : Nat), Hid (y < h) ∧ Hid (Nat.gcd x y = g) ∧ Hid (Fits x ∧ Fits y) ∧ Hid (WordsAt wr X 0 x 8) ∧ Hid (WordsAt wr Y 0 y 8) ∧ Hid (IntAt wr (S + 1 + 1) false 0) ∧ Hid (Below S w wr) ∧ Hid (S + 1 + 1 + 1 + 1 + 1 ≤ wr.heap.size))
    case atStart => exact ⟨n, m, Nat.lt_succ_self m, HG0, ⟨hn.out, hm.out⟩, KX, KY, KZ, KB, Nat.le_of_eq Ks.out.symm⟩
    case round =>
      clear KX KY KZ KB Ks HG0
      obtain ⟨x, y, HY, HG, HF, KX, KY, KZ, KB, Ks⟩ := hrel
      have hne := fun W => neWords y 0 W HF.out.2 (Nat.pow_pos (by decide))
      simp only [wordsV, wd_zero, Int.natCast_zero] at hne
      obtain ⟨⟨a0, b0⟩, ⟨a1, b1⟩, ⟨a2, b2⟩, ⟨a3, b3⟩, ⟨a4, b4⟩, ⟨a5, b5⟩, ⟨a6, b6⟩, ⟨a7, b7⟩⟩ := KX.out.eight
      obtain ⟨⟨c0, d0⟩, ⟨c1, d1⟩, ⟨c2, d2⟩, ⟨c3, d3⟩, ⟨c4, d4⟩, ⟨c5, d5⟩, ⟨c6, d6⟩, ⟨c7, d7⟩⟩ := KY.out.eight
      by_cases hy : y = 0
      · subst hy
        have HV : Hid (x = g) := by have := HG.out; rwa [Nat.gcd_zero_right] at this
        rw [decide_eq_true rfl] at hne
        obtain ⟨⟨g0, h0⟩, ⟨g1, h1⟩, ⟨g2, h2⟩, ⟨g3, h3⟩, ⟨g4, h4⟩, ⟨g5, h5⟩, ⟨g6, h6⟩, ⟨g7, h7⟩, ⟨g8, h8⟩⟩ := KZ.out.nine
        go_wp2_with fail
        refine bodyPost_ret (v := intV false x) (by rw [results_cell1 rfl]; go_simp; try rfl) rfl ⟨by rw [HV.out]; rfl, ?_⟩
        exact (st9_but wr (S + 1 + 1) false x).2.1 S w (by omega) KB.out
      · rw [decide_eq_false hy] at hne
        have HC := Lib.hid (fun W => divide_run x y W HF.out.1 HF.out.2 (by omega))
        obtain ⟨q, hq⟩ : ∃ q, x / y = q := ⟨_, rfl⟩
        obtain ⟨r, hr⟩ : ∃ r, x % y = r := ⟨_, rfl⟩
        rw [hq, hr] at HC
        have HR : Hid (r < y ∧ Nat.gcd y r = g ∧ Fits r) := by
          have h1 := Nat.mod_lt x (show y > 0 by omega)
          rw [hr] at h1
          refine ⟨h1, ?_, Nat.lt_trans h1 HF.out.2⟩
          rw [← HG.out, ← hr, Nat.gcd_comm x y, Nat.gcd_rec y x, Nat.gcd_comm]
        unfold wordsV at HC
        clear hq hr hy
        go_wp2_with fail
        refine (HC.out _).mono ?_
        rintro e w1 ⟨rfl, hw1⟩
        have hxy := HXY.out
        have hks := Ks.out
        have LX := KX.out.keep hw1 (by omega)
        have LY := KY.out.keep hw1 (by omega)
        have LZ := KZ.out.keep hw1 (by omega)
        have LB : Below S w w1 := KB.out.trans (hw1.mono (by omega))
        have ls : S + 1 + 1 + 1 + 1 + 1 ≤ w1.heap.size := Nat.le_trans hks hw1.size
        obtain ⟨R, hR⟩ : ∃ R, w1.heap.size = R := ⟨_, rfl⟩
        rw [hR] at ls
        have hs1 : (w1.alloc (boxO q 61)).heap.size = R + 1 := by simp [hR]
        have hs2 : ((w1.alloc (boxO q 61)).alloc (boxO r 61)).heap.size = R + 1 + 1 := by simp [hR]
        have P2 := (two_boxes w1 q r 61 61).2.1
        have M1 := (LX.alloc (by omega) (boxO q 61)).alloc (by omega) (boxO r 61)
        have M2 := (LY.alloc (by omega) (boxO q 61)).alloc (by omega) (boxO r 61)
        have M3 := (LZ.alloc (by omega) (boxO q 61)).alloc (by omega) (boxO r 61)
        have M4 : Below S w ((w1.alloc (boxO q 61)).alloc (boxO r 61)) := (LB.alloc (by omega) _).alloc (by omega) _
        rw [hR] at P2
        obtain ⟨wy, hwy⟩ : ∃ wy, (w1.alloc (boxO q 61)).alloc (boxO r 61) = wy := ⟨_, rfl⟩
        rw [hwy] at P2 M1 M2 M3 M4 hs2
        clear hw1 LX LY LZ LB KX KY KZ KB Ks hs1 a0 a1 a2 a3 a4 a5 a6 a7 b0 b1 b2 b3 b4 b5 b6 b7 c0 c1 c2 c3 c4 c5 c6 c7 d0 d1 d2 d3 d4 d5 d6 d7 HC hne hxy hks
        go_upto_region 4 with fail
        have N1 := Lib.hid M1
        have N2 := Lib.hid M2
        have N3 := Lib.hid M3
        have N4 := Lib.hid M4
        have N5 := Lib.hid hs2
        have N6 := Lib.hid ls
        obtain ⟨⟨a0, b0⟩, ⟨a1, b1⟩, ⟨a2, b2⟩, ⟨a3, b3⟩, ⟨a4, b4⟩, ⟨a5, b5⟩, ⟨a6, b6⟩, ⟨a7, b7⟩⟩ := M1.eight
        obtain ⟨⟨c0, d0⟩, ⟨c1, d1⟩, ⟨c2, d2⟩, ⟨c3, d3⟩, ⟨c4, d4⟩, ⟨c5, d5⟩, ⟨c6, d6⟩, ⟨c7, d7⟩⟩ := M2.eight
        obtain ⟨⟨e0, f0⟩, ⟨e1, f1⟩, ⟨e2, f2⟩, ⟨e3, f3⟩, ⟨e4, f4⟩, ⟨e5, f5⟩, ⟨e6, f6⟩, ⟨e7, f7⟩⟩ := P2.eight
        have hne1 : ¬ X = Y := HXY.out.1
        have hne2 : ¬ Y = X := fun h => HXY.out.1 h.symm
        have hlx := HXY.out
        have hne3 : ¬ X = R + 1 := by omega
        have hne4 : ¬ R + 1 = X := by omega
        have hne5 : ¬ Y = R + 1 := by omega
        have hne6 : ¬ R + 1 = Y := by omega
        clear hlx
        clear hwy P2 M1 M2 M3 M4 hs2 ls hR
        go_region
        show Exit.inBlock _ _ _ _ (st8 (st8 wy X y) Y r).drew
        have b1' := st8_but wy X y
        have b2' := st8_but (st8 wy X y) Y r
        have KX := Lib.hid ((st8_at (n := y) N1.out).but b2' hne1)
        have KY := Lib.hid (st8_at (n := r) (N2.out.but b1' hne2))
        have KZ := Lib.hid ((N3.out.but b1' (fun h => HXY.out.2.1 h.symm)).but b2' (fun h => HXY.out.2.2.1 h.symm)).drew
        have KB := Lib.hid (b2'.2.1 S w (by have := HXY.out; omega) (b1'.2.1 S w (by have := HXY.out; omega) N4.out)).drew
        have Ks : Hid (S + 1 + 1 + 1 + 1 + 1 ≤ (st8 (st8 wy X y) Y r).heap.size) := by show _ ≤ _; rw [b2'.2.2, b1'.2.2, N5.out]; have := N6.out; omega
        have KX' : Hid (WordsAt (st8 (st8 wy X y) Y r).drew X 0 y 8) := WordsF.drew1 KX.out
        have KY' : Hid (WordsAt (st8 (st8 wy X y) Y r).drew Y 0 r 8) := WordsF.drew1 KY.out
        have Ks' : Hid (S + 1 + 1 + 1 + 1 + 1 ≤ (st8 (st8 wy X y) Y r).drew.heap.size) := Lib.hid (Nat.le_trans Ks.out (Nat.le_of_eq (drew_size _).symm))
        clear b1' b2' KX KY Ks N1 N2 N3 N4 N5 N6 a0 a1 a2 a3 a4 a5 a6 a7 b0 b1 b2 b3 b4 b5 b6 b7 c0 c1 c2 c3 c4 c5 c6 c7 d0 d1 d2 d3 d4 d5 d6 d7 e0 e1 e2 e3 e4 e5 e6 e7 f0 f1 f2 f3 f4 f5 f6 f7 hne1 hne2 hne3 hne4 hne5 hne6
        generalize (st8 (st8 wy X y) Y r).drew = wz at *
        go_wp2_with fail
        go_roundg y
        case measure => have := HY.out; omega
        case rel => exact ⟨y, r, HR.out.1, HR.out.2.1, ⟨HF.out.2, HR.out.2.2⟩, KX', KY', KZ, KB, Ks'⟩
end Go.Proofs.YtbcnpajdmlbieaaDoor
