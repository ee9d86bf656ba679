/-
  Stage 7: limb's Gcd.
-/
import Derived.Test.YtgkhjeefcflmcaaGreatDoorMt08
import Derived.Test.YtgkhjeefcflmcaaGreatDoorMt10
import Derived.Deep.RegionHeld3
namespace Go.Proofs.YtgkhjeefcflmcaaGreatDoor
open Go.RowKit Go.Sort
theorem WordsF.drew1 {w : World} {b o k : Nat} {f : Nat → Nat} (h : WordsF w b o f k) : WordsF w.drew b o f k := h
theorem drew_size (w : World) : w.drew.heap.size = w.heap.size := rfl
def st8 (w : World) (b n : Nat) : World := ((((((((w.setCell ⟨b, 0, none⟩ (.int .u64 (wd n 0 : Int))).setCell ⟨b, 1, none⟩ (.int .u64 (wd n 1 : Int))).setCell ⟨b, 2, none⟩ (.int .u64 (wd n 2 : Int))).setCell ⟨b, 3, none⟩ (.int .u64 (wd n 3 : Int))).setCell ⟨b, 4, none⟩ (.int .u64 (wd n 4 : Int))).setCell ⟨b, 5, none⟩ (.int .u64 (wd n 5 : Int))).setCell ⟨b, 6, none⟩ (.int .u64 (wd n 6 : Int))).setCell ⟨b, 7, none⟩ (.int .u64 (wd n 7 : Int)))
theorem st8_but (w : World) (b n : Nat) : But1 w (st8 w b n) b := But1.set8 w b _ _ _ _ _ _ _ _
theorem st8_at {w : World} {b n : Nat} {f : Nat → Nat} (h : WordsF w b 0 f 8) : WordsAt (st8 w b n) b 0 n 8 := h.set8 (g := wd n)
set_option maxRecDepth 100000 in
set_option maxHeartbeats 4000000 in
theorem Gcd_run (s : Bool) (n : Nat) (t : Bool) (m : Nat) (w : World) (hn : Hid (Fits n)) (hm : Hid (Fits m)) :
    Calls Tryz.prog 217 #[intV s n, intV t m] w fun e w' => e = .returned (intV false (Nat.gcd n m)) ∧ Below w.heap.size w w' := by
  obtain ⟨S, hS⟩ : ∃ S, w.heap.size = S := ⟨_, rfl⟩
  obtain ⟨W, hW⟩ : ∃ W, ((w.alloc (boxI s n 92)).alloc (boxI t m 92)).alloc (boxIZ 92) = W := ⟨_, rfl⟩
  have T := three_ints w s n t m 92 92 92
  rw [hW, hS] at T
  have HT := Lib.hid T
  obtain ⟨⟨a0, b0⟩, ⟨a1, b1⟩, ⟨a2, b2⟩, ⟨a3, b3⟩, ⟨a4, b4⟩, ⟨a5, b5⟩, ⟨a6, b6⟩, ⟨a7, b7⟩, ⟨a8, b8⟩⟩ := T.1.nine
  obtain ⟨⟨c0, d0⟩, ⟨c1, d1⟩, ⟨c2, d2⟩, ⟨c3, d3⟩, ⟨c4, d4⟩, ⟨c5, d5⟩, ⟨c6, d6⟩, ⟨c7, d7⟩, ⟨c8, d8⟩⟩ := T.2.1.nine
  clear T
  rw [hS]
  obtain ⟨g, hg⟩ : ∃ g, Nat.gcd n m = g := ⟨_, rfl⟩
  rw [hg]
  have HG0 := Lib.hid hg
  clear hg
  unfold intV
  go_enter Tryz.func217, Tryz.ntmps217
  have hWs : W.heap.size = S + 1 + 1 + 1 := HT.out.2.2.2.2
  have hWa : (W.alloc (boxZ 217)).heap.size = S + 1 + 1 + 1 + 1 := by simp [hWs]
  have A1 := HT.out.1.alloc (by omega) (boxZ 217)
  have A2 := A1.alloc (by omega) (boxZ 217)
  have C1 := HT.out.2.1.alloc (by omega) (boxZ 217)
  have C2 := C1.alloc (by omega) (boxZ 217)
  obtain ⟨⟨p0, p0'⟩, ⟨p1, p1'⟩, ⟨p2, p2'⟩, ⟨p3, p3'⟩, ⟨p4, p4'⟩, ⟨p5, p5'⟩, ⟨p6, p6'⟩, ⟨p7, p7'⟩⟩ := A1.drew.words.eightAt1
  obtain ⟨⟨q0, q0'⟩, ⟨q1, q1'⟩, ⟨q2, q2'⟩, ⟨q3, q3'⟩, ⟨q4, q4'⟩, ⟨q5, q5'⟩, ⟨q6, q6'⟩, ⟨q7, q7'⟩⟩ := A2.drew.words.eightAt1
  obtain ⟨⟨x0, x0'⟩, ⟨x1, x1'⟩, ⟨x2, x2'⟩, ⟨x3, x3'⟩, ⟨x4, x4'⟩, ⟨x5, x5'⟩, ⟨x6, x6'⟩, ⟨x7, x7'⟩⟩ := C1.drew.words.eightAt1
  obtain ⟨⟨y0, y0'⟩, ⟨y1, y1'⟩, ⟨y2, y2'⟩, ⟨y3, y3'⟩, ⟨y4, y4'⟩, ⟨y5, y5'⟩, ⟨y6, y6'⟩, ⟨y7, y7'⟩⟩ := C2.drew.words.eightAt1
  clear A1 A2 C1 C2
  go_wp2_with fail
  go_region
  all_goals go_upto_region 2 with fail
  all_goals first
  | (have hz1 : (W.alloc (boxO n 217)).heap.size = S + 1 + 1 + 1 + 1 := by simp [hWs]
     have hz2 : ((W.alloc (boxO n 217)).alloc (boxO m 217)).heap.size = S + 1 + 1 + 1 + 1 + 1 := by simp [hWs]
     show Code.wp _ _ _ _ ((W.alloc (boxO n 217)).alloc (boxO m 217)).drew
     have P2 := two_boxes W n m 217 217
     rw [hWs] at P2
     have KX := Lib.hid (show WordsAt ((W.alloc (boxO n 217)).alloc (boxO m 217)).drew (S + 1 + 1 + 1) 0 n 8 from P2.1)
     have KY := Lib.hid (show WordsAt ((W.alloc (boxO n 217)).alloc (boxO m 217)).drew (S + 1 + 1 + 1 + 1) 0 m 8 from P2.2.1)
     have KZ := Lib.hid ((HT.out.2.2.1.alloc (by omega) (boxO n 217)).alloc (by omega) (boxO m 217)).drew
     have KB : Hid (Below S w ((W.alloc (boxO n 217)).alloc (boxO m 217)).drew) := ((HT.out.2.2.2.1.alloc (by omega) _).alloc (by omega) _).drew
     have Ks : Hid (((W.alloc (boxO n 217)).alloc (boxO m 217)).drew.heap.size = S + 1 + 1 + 1 + 1 + 1) := hz2
     generalize ((W.alloc (boxO n 217)).alloc (boxO m 217)).drew = wx at *
     obtain ⟨X, hX⟩ : ∃ X, (S + 1 + 1 + 1) = X := ⟨_, rfl⟩
     obtain ⟨Y, hY⟩ : ∃ Y, (S + 1 + 1 + 1 + 1) = Y := ⟨_, rfl⟩
     have HXY : Hid (X ≠ Y ∧ X ≠ S + 1 + 1 ∧ Y ≠ S + 1 + 1 ∧ X < S + 1 + 1 + 1 + 1 + 1 ∧ Y < S + 1 + 1 + 1 + 1 + 1 ∧ S ≤ X ∧ S ≤ Y) := by show _ ∧ _; omega
     rw [hY, hX]
     rw [hX] at KX
     rw [hY] at KY
     clear P2 hz1 hz2 hX hY)
  | (have hz1 : (W.alloc (boxO m 217)).heap.size = S + 1 + 1 + 1 + 1 := by simp [hWs]
     have hz2 : ((W.alloc (boxO m 217)).alloc (boxO n 217)).heap.size = S + 1 + 1 + 1 + 1 + 1 := by simp [hWs]
     show Code.wp _ _ _ _ ((W.alloc (boxO m 217)).alloc (boxO n 217)).drew
     have P2 := two_boxes W m n 217 217
     rw [hWs] at P2
     have KX := Lib.hid (show WordsAt ((W.alloc (boxO m 217)).alloc (boxO n 217)).drew (S + 1 + 1 + 1 + 1) 0 n 8 from P2.2.1)
     have KY := Lib.hid (show WordsAt ((W.alloc (boxO m 217)).alloc (boxO n 217)).drew (S + 1 + 1 + 1) 0 m 8 from P2.1)
     have KZ := Lib.hid ((HT.out.2.2.1.alloc (by omega) (boxO m 217)).alloc (by omega) (boxO n 217)).drew
     have KB : Hid (Below S w ((W.alloc (boxO m 217)).alloc (boxO n 217)).drew) := ((HT.out.2.2.2.1.alloc (by omega) _).alloc (by omega) _).drew
     have Ks : Hid (((W.alloc (boxO m 217)).alloc (boxO n 217)).drew.heap.size = S + 1 + 1 + 1 + 1 + 1) := hz2
     generalize ((W.alloc (boxO m 217)).alloc (boxO n 217)).drew = wx at *
     obtain ⟨X, hX⟩ : ∃ X, (S + 1 + 1 + 1 + 1) = X := ⟨_, rfl⟩
     obtain ⟨Y, hY⟩ : ∃ Y, (S + 1 + 1 + 1) = Y := ⟨_, rfl⟩
     have HXY : Hid (X ≠ Y ∧ X ≠ S + 1 + 1 ∧ Y ≠ S + 1 + 1 ∧ X < S + 1 + 1 + 1 + 1 + 1 ∧ Y < S + 1 + 1 + 1 + 1 + 1 ∧ S ≤ X ∧ S ≤ Y) := by show _ ∧ _; omega
     rw [hX, hY]
     rw [hX] at KX
     rw [hY] at KY
     clear P2 hz1 hz2 hX hY)
  all_goals
    clear HT hW hWs hWa a0 a1 a2 a3 a4 a5 a6 a7 a8 b0 b1 b2 b3 b4 b5 b6 b7 b8 c0 c1 c2 c3 c4 c5 c6 c7 c8 d0 d1 d2 d3 d4 d5 d6 d7 d8 p0 p1 p2 p3 p4 p5 p6 p7 p0' p1' p2' p3' p4' p5' p6' p7' q0 q1 q2 q3 q4 q5 q6 q7 q0' q1' q2' q3' q4' q5' q6' q7' x0 x1 x2 x3 x4 x5 x6 x7 x0' x1' x2' x3' x4' x5' x6' x7' y0 y1 y2 y3 y4 y5 y6 y7 y0' y1' y2' y3' y4' y5' y6' y7'
    go_wp2_with fail
    go_loopg [16] (m + 1) (fun h s16 wr => ∃ (x y : Nat), Hid (y < h) ∧ Hid (Nat.gcd x y = g) ∧ Hid (Fits x ∧ Fits y) ∧ Hid (WordsAt wr X 0 x 8) ∧ Hid (WordsAt wr Y 0 y 8) ∧ Hid (IntAt wr (S + 1 + 1) false 0) ∧ Hid (Below S w wr) ∧ Hid (S + 1 + 1 + 1 + 1 + 1 ≤ wr.heap.size))
    case atStart => exact ⟨n, m, Nat.lt_succ_self m, HG0, ⟨hn.out, hm.out⟩, KX, KY, KZ, KB, Nat.le_of_eq Ks.out.symm⟩
    case round =>
      clear KX KY KZ KB Ks HG0
      obtain ⟨x, y, HY, HG, HF, KX, KY, KZ, KB, Ks⟩ := hrel
      have hne := fun W => neWords y 0 W HF.out.2 (Nat.pow_pos (by decide))
      simp only [wordsV, wd_zero, Int.natCast_zero] at hne
      obtain ⟨⟨a0, b0⟩, ⟨a1, b1⟩, ⟨a2, b2⟩, ⟨a3, b3⟩, ⟨a4, b4⟩, ⟨a5, b5⟩, ⟨a6, b6⟩, ⟨a7, b7⟩⟩ := KX.out.eight
      obtain ⟨⟨c0, d0⟩, ⟨c1, d1⟩, ⟨c2, d2⟩, ⟨c3, d3⟩, ⟨c4, d4⟩, ⟨c5, d5⟩, ⟨c6, d6⟩, ⟨c7, d7⟩⟩ := KY.out.eight
      by_cases hy : y = 0
      · subst hy
        have HV : Hid (x = g) := by have := HG.out; rwa [Nat.gcd_zero_right] at this
        rw [decide_eq_true rfl] at hne
        obtain ⟨⟨g0, h0⟩, ⟨g1, h1⟩, ⟨g2, h2⟩, ⟨g3, h3⟩, ⟨g4, h4⟩, ⟨g5, h5⟩, ⟨g6, h6⟩, ⟨g7, h7⟩, ⟨g8, h8⟩⟩ := KZ.out.nine
        go_wp2_with fail
        refine bodyPost_ret (v := intV false x) (by rw [results_cell1 rfl]; go_simp; try rfl) rfl ⟨by rw [HV.out]; rfl, ?_⟩
        exact (st9_but wr (S + 1 + 1) false x).2.1 S w (by omega) KB.out
      · rw [decide_eq_false hy] at hne
        have HC := Lib.hid (fun W => divide_run x y W HF.out.1 HF.out.2 (by omega))
        obtain ⟨q, hq⟩ : ∃ q, x / y = q := ⟨_, rfl⟩
        obtain ⟨r, hr⟩ : ∃ r, x % y = r := ⟨_, rfl⟩
        rw [hq, hr] at HC
        have HR : Hid (r < y ∧ Nat.gcd y r = g ∧ Fits r) := by
          have h1 := Nat.mod_lt x (show y > 0 by omega)
          rw [hr] at h1
          refine ⟨h1, ?_, Nat.lt_trans h1 HF.out.2⟩
          rw [← HG.out, ← hr, Nat.gcd_comm x y, Nat.gcd_rec y x, Nat.gcd_comm]
        unfold wordsV at HC
        clear hq hr hy
        go_wp2_with fail
        refine (HC.out _).mono ?_
        rintro e w1 ⟨rfl, hw1⟩
        have hxy := HXY.out
        have hks := Ks.out
        have LX := KX.out.keep hw1 (by omega)
        have LY := KY.out.keep hw1 (by omega)
        have LZ := KZ.out.keep hw1 (by omega)
        have LB : Below S w w1 := KB.out.trans (hw1.mono (by omega))
        have ls : S + 1 + 1 + 1 + 1 + 1 ≤ w1.heap.size := Nat.le_trans hks hw1.size
        obtain ⟨R, hR⟩ : ∃ R, w1.heap.size = R := ⟨_, rfl⟩
        rw [hR] at ls
        have hs1 : (w1.alloc (boxO q 217)).heap.size = R + 1 := by simp [hR]
        have hs2 : ((w1.alloc (boxO q 217)).alloc (boxO r 217)).heap.size = R + 1 + 1 := by simp [hR]
        have P2 := (two_boxes w1 q r 217 217).2.1
        have M1 := (LX.alloc (by omega) (boxO q 217)).alloc (by omega) (boxO r 217)
        have M2 := (LY.alloc (by omega) (boxO q 217)).alloc (by omega) (boxO r 217)
        have M3 := (LZ.alloc (by omega) (boxO q 217)).alloc (by omega) (boxO r 217)
        have M4 : Below S w ((w1.alloc (boxO q 217)).alloc (boxO r 217)) := (LB.alloc (by omega) _).alloc (by omega) _
        rw [hR] at P2
        obtain ⟨wy, hwy⟩ : ∃ wy, (w1.alloc (boxO q 217)).alloc (boxO r 217) = wy := ⟨_, rfl⟩
        rw [hwy] at P2 M1 M2 M3 M4 hs2
        clear hw1 LX LY LZ LB KX KY KZ KB Ks hs1 a0 a1 a2 a3 a4 a5 a6 a7 b0 b1 b2 b3 b4 b5 b6 b7 c0 c1 c2 c3 c4 c5 c6 c7 d0 d1 d2 d3 d4 d5 d6 d7 HC hne hxy hks
        go_upto_region 4 with fail
        have N1 := Lib.hid M1
        have N2 := Lib.hid M2
        have N3 := Lib.hid M3
        have N4 := Lib.hid M4
        have N5 := Lib.hid hs2
        have N6 := Lib.hid ls
        obtain ⟨⟨a0, b0⟩, ⟨a1, b1⟩, ⟨a2, b2⟩, ⟨a3, b3⟩, ⟨a4, b4⟩, ⟨a5, b5⟩, ⟨a6, b6⟩, ⟨a7, b7⟩⟩ := M1.eight
        obtain ⟨⟨c0, d0⟩, ⟨c1, d1⟩, ⟨c2, d2⟩, ⟨c3, d3⟩, ⟨c4, d4⟩, ⟨c5, d5⟩, ⟨c6, d6⟩, ⟨c7, d7⟩⟩ := M2.eight
        obtain ⟨⟨e0, f0⟩, ⟨e1, f1⟩, ⟨e2, f2⟩, ⟨e3, f3⟩, ⟨e4, f4⟩, ⟨e5, f5⟩, ⟨e6, f6⟩, ⟨e7, f7⟩⟩ := P2.eight
        have hne1 : ¬ X = Y := HXY.out.1
        have hne2 : ¬ Y = X := fun h => HXY.out.1 h.symm
        have hlx := HXY.out
        have hne3 : ¬ X = R + 1 := by omega
        have hne4 : ¬ R + 1 = X := by omega
        have hne5 : ¬ Y = R + 1 := by omega
        have hne6 : ¬ R + 1 = Y := by omega
        clear hlx
        clear hwy P2 M1 M2 M3 M4 hs2 ls hR
        go_region
        show Exit.inBlock _ _ _ _ (st8 (st8 wy X y) Y r).drew
        have b1' := st8_but wy X y
        have b2' := st8_but (st8 wy X y) Y r
        have KX := Lib.hid ((st8_at (n := y) N1.out).but b2' hne1)
        have KY := Lib.hid (st8_at (n := r) (N2.out.but b1' hne2))
        have KZ := Lib.hid ((N3.out.but b1' (fun h => HXY.out.2.1 h.symm)).but b2' (fun h => HXY.out.2.2.1 h.symm)).drew
        have KB := Lib.hid (b2'.2.1 S w (by have := HXY.out; omega) (b1'.2.1 S w (by have := HXY.out; omega) N4.out)).drew
        have Ks : Hid (S + 1 + 1 + 1 + 1 + 1 ≤ (st8 (st8 wy X y) Y r).heap.size) := by show _ ≤ _; rw [b2'.2.2, b1'.2.2, N5.out]; have := N6.out; omega
        have KX' : Hid (WordsAt (st8 (st8 wy X y) Y r).drew X 0 y 8) := WordsF.drew1 KX.out
        have KY' : Hid (WordsAt (st8 (st8 wy X y) Y r).drew Y 0 r 8) := WordsF.drew1 KY.out
        have Ks' : Hid (S + 1 + 1 + 1 + 1 + 1 ≤ (st8 (st8 wy X y) Y r).drew.heap.size) := Lib.hid (Nat.le_trans Ks.out (Nat.le_of_eq (drew_size _).symm))
        clear b1' b2' KX KY Ks N1 N2 N3 N4 N5 N6 a0 a1 a2 a3 a4 a5 a6 a7 b0 b1 b2 b3 b4 b5 b6 b7 c0 c1 c2 c3 c4 c5 c6 c7 d0 d1 d2 d3 d4 d5 d6 d7 e0 e1 e2 e3 e4 e5 e6 e7 f0 f1 f2 f3 f4 f5 f6 f7 hne1 hne2 hne3 hne4 hne5 hne6
        generalize (st8 (st8 wy X y) Y r).drew = wz at *
        go_wp2_with fail
        go_roundg y
        case measure => have := HY.out; omega
        case rel => exact ⟨y, r, HR.out.1, HR.out.2.1, ⟨HF.out.2, HR.out.2.2⟩, KX', KY', KZ, KB, Ks'⟩
end Go.Proofs.YtgkhjeefcflmcaaGreatDoor
namespace Go.Proofs.YtgkhjeefcflmcaaGreatDoor
open Go.RowKit Go.Sort
theorem make_boxes (w : World) (s : Bool) (n : Nat) (t : Bool) (m : Nat) (T U V : TypeId) : IntAt (((w.alloc (boxI s n T)).alloc (boxI t m U)).alloc (boxRZ V)) w.heap.size s n ∧ IntAt (((w.alloc (boxI s n T)).alloc (boxI t m U)).alloc (boxRZ V)) (w.heap.size + 1) t m ∧ RatAt (((w.alloc (boxI s n T)).alloc (boxI t m U)).alloc (boxRZ V)) (w.heap.size + 1 + 1) false 0 false 0 ∧ Below w.heap.size w (((w.alloc (boxI s n T)).alloc (boxI t m U)).alloc (boxRZ V)) ∧ (((w.alloc (boxI s n T)).alloc (boxI t m U)).alloc (boxRZ V)).heap.size = w.heap.size + 1 + 1 + 1 := by
 obtain ⟨h1, h2, h3, h4⟩ := two_ints w s n t m T U
 refine ⟨h1.alloc (by omega) _, h2.alloc (by omega) _, ?_, h3.alloc (by omega) _, by simp⟩
 have := RatAt.zero ((w.alloc (boxI s n T)).alloc (boxI t m U)) V
 rwa [h4] at this
theorem make_cells {W : World} {S R n m g : Nat} {s t x : Bool} (I1 : IntAt W S s n) (I2 : IntAt W (S + 1) t m) (I3 : IntAt W R x g) : W.cell? ⟨S, 0, none⟩ = some (.bool s) ∧ W.cell? ⟨S, 1, none⟩ = some (.int .u64 (wd n 0 : Int)) ∧ W.cell? ⟨S, 2, none⟩ = some (.int .u64 (wd n 1 : Int)) ∧ W.cell? ⟨S, 3, none⟩ = some (.int .u64 (wd n 2 : Int)) ∧ W.cell? ⟨S, 4, none⟩ = some (.int .u64 (wd n 3 : Int)) ∧ W.cell? ⟨S, 5, none⟩ = some (.int .u64 (wd n 4 : Int)) ∧ W.cell? ⟨S, 6, none⟩ = some (.int .u64 (wd n 5 : Int)) ∧ W.cell? ⟨S, 7, none⟩ = some (.int .u64 (wd n 6 : Int)) ∧ W.cell? ⟨S, 8, none⟩ = some (.int .u64 (wd n 7 : Int)) ∧ W.cell? ⟨S + 1, 0, none⟩ = some (.bool t) ∧ W.cell? ⟨S + 1, 1, none⟩ = some (.int .u64 (wd m 0 : Int)) ∧ W.cell? ⟨S + 1, 2, none⟩ = some (.int .u64 (wd m 1 : Int)) ∧ W.cell? ⟨S + 1, 3, none⟩ = some (.int .u64 (wd m 2 : Int)) ∧ W.cell? ⟨S + 1, 4, none⟩ = some (.int .u64 (wd m 3 : Int)) ∧ W.cell? ⟨S + 1, 5, none⟩ = some (.int .u64 (wd m 4 : Int)) ∧ W.cell? ⟨S + 1, 6, none⟩ = some (.int .u64 (wd m 5 : Int)) ∧ W.cell? ⟨S + 1, 7, none⟩ = some (.int .u64 (wd m 6 : Int)) ∧ W.cell? ⟨S + 1, 8, none⟩ = some (.int .u64 (wd m 7 : Int)) ∧ W.cell? ⟨R, 0, none⟩ = some (.bool x) ∧ W.cell? ⟨R, 1, none⟩ = some (.int .u64 (wd g 0 : Int)) ∧ W.cell? ⟨R, 2, none⟩ = some (.int .u64 (wd g 1 : Int)) ∧ W.cell? ⟨R, 3, none⟩ = some (.int .u64 (wd g 2 : Int)) ∧ W.cell? ⟨R, 4, none⟩ = some (.int .u64 (wd g 3 : Int)) ∧ W.cell? ⟨R, 5, none⟩ = some (.int .u64 (wd g 4 : Int)) ∧ W.cell? ⟨R, 6, none⟩ = some (.int .u64 (wd g 5 : Int)) ∧ W.cell? ⟨R, 7, none⟩ = some (.int .u64 (wd g 6 : Int)) ∧ W.cell? ⟨R, 8, none⟩ = some (.int .u64 (wd g 7 : Int)) := by
 obtain ⟨⟨a0, x0⟩, ⟨a1, x1⟩, ⟨a2, x2⟩, ⟨a3, x3⟩, ⟨a4, x4⟩, ⟨a5, x5⟩, ⟨a6, x6⟩, ⟨a7, x7⟩, ⟨a8, x8⟩⟩ := I1.nine
 obtain ⟨⟨b0, y0⟩, ⟨b1, y1⟩, ⟨b2, y2⟩, ⟨b3, y3⟩, ⟨b4, y4⟩, ⟨b5, y5⟩, ⟨b6, y6⟩, ⟨b7, y7⟩, ⟨b8, y8⟩⟩ := I2.nine
 obtain ⟨⟨c0, z0⟩, ⟨c1, z1⟩, ⟨c2, z2⟩, ⟨c3, z3⟩, ⟨c4, z4⟩, ⟨c5, z5⟩, ⟨c6, z6⟩, ⟨c7, z7⟩, ⟨c8, z8⟩⟩ := I3.nine
 exact ⟨a0, a1, a2, a3, a4, a5, a6, a7, a8, b0, b1, b2, b3, b4, b5, b6, b7, b8, c0, c1, c2, c3, c4, c5, c6, c7, c8⟩
structure MkInv (w W : World) (S R E : Nat) (s : Bool) (n : Nat) (t : Bool) (m : Nat) (x : Bool) (g : Nat) : Prop where
 i1 : IntAt W S s n
 i2 : IntAt W (S + 1) t m
 i3 : IntAt W R x g
 i4 : RatAt W (S + 1 + 1) false 0 false 0
 bl : Below S w W
 er : ErrAt W E 0
 sz : E + 1 ≤ W.heap.size
 r1 : S + 1 + 1 + 1 ≤ R
 r2 : R + 1 ≤ E
theorem MkInv.alloc {w W : World} {S R E n m g : Nat} {s t x : Bool} (h : MkInv w W S R E s n t m x g) (o : Obj) : MkInv w (W.alloc o) S R E s n t m x g :=
 have h1 := h.r1; have h2 := h.r2; have h3 := h.sz
 ⟨h.i1.alloc (by omega) o, h.i2.alloc (by omega) o, h.i3.alloc (by omega) o, h.i4.alloc (by omega) o, h.bl.alloc (by omega) o, h.er.below (below_alloc W o), by simp; omega, h1, h2⟩
theorem MkInv.drew {w W : World} {S R E n m g : Nat} {s t x : Bool} (h : MkInv w W S R E s n t m x g) : MkInv w W.drew S R E s n t m x g := ⟨h.i1.drew, h.i2.drew, h.i3.drew, h.i4.drew, h.bl.drew, h.er.drew, h.sz, h.r1, h.r2⟩
theorem MkInv.ste {w W V : World} {S R E n m g : Nat} {s t x : Bool} (h : MkInv w W S R E s n t m x g) (k : Ste W V E 0) : MkInv w V S R E s n t m x g :=
 have h1 := h.r1; have h2 := h.r2; have h3 := h.sz
 ⟨h.i1.ste k (by omega) (by omega), h.i2.ste k (by omega) (by omega), h.i3.ste k (by omega) (by omega), h.i4.ste k (by omega) (by omega), k.below S w (by omega) (by omega) h.bl, k.err, Nat.le_trans h3 k.size, h1, h2⟩
theorem MkInv.but {w W V : World} {S R E L n m g : Nat} {s t x : Bool} (h : MkInv w W S R E s n t m x g) (k : But1 W V L) (hL : E < L) : MkInv w V S R E s n t m x g :=
 have h1 := h.r1; have h2 := h.r2; have h3 := h.sz
 ⟨h.i1.but k (by omega), h.i2.but k (by omega), h.i3.but k (by omega), h.i4.but k (by omega), k.2.1 S w (by omega) h.bl, ⟨(k.1 ⟨E, 0, none⟩ (by show E ≠ L; omega)).1.trans h.er.cell, (k.1 ⟨E, 0, none⟩ (by show E ≠ L; omega)).2.trans h.er.free⟩, by rw [k.2.2]; exact h3, h1, h2⟩
theorem MkInv.cells {w W : World} {S R E n m g : Nat} {s t x : Bool} (h : MkInv w W S R E s n t m x g) : W.cell? ⟨S, 0, none⟩ = some (.bool s) ∧ W.cell? ⟨S, 1, none⟩ = some (.int .u64 (wd n 0 : Int)) ∧ W.cell? ⟨S, 2, none⟩ = some (.int .u64 (wd n 1 : Int)) ∧ W.cell? ⟨S, 3, none⟩ = some (.int .u64 (wd n 2 : Int)) ∧ W.cell? ⟨S, 4, none⟩ = some (.int .u64 (wd n 3 : Int)) ∧ W.cell? ⟨S, 5, none⟩ = some (.int .u64 (wd n 4 : Int)) ∧ W.cell? ⟨S, 6, none⟩ = some (.int .u64 (wd n 5 : Int)) ∧ W.cell? ⟨S, 7, none⟩ = some (.int .u64 (wd n 6 : Int)) ∧ W.cell? ⟨S, 8, none⟩ = some (.int .u64 (wd n 7 : Int)) ∧ W.cell? ⟨S + 1, 0, none⟩ = some (.bool t) ∧ W.cell? ⟨S + 1, 1, none⟩ = some (.int .u64 (wd m 0 : Int)) ∧ W.cell? ⟨S + 1, 2, none⟩ = some (.int .u64 (wd m 1 : Int)) ∧ W.cell? ⟨S + 1, 3, none⟩ = some (.int .u64 (wd m 2 : Int)) ∧ W.cell? ⟨S + 1, 4, none⟩ = some (.int .u64 (wd m 3 : Int)) ∧ W.cell? ⟨S + 1, 5, none⟩ = some (.int .u64 (wd m 4 : Int)) ∧ W.cell? ⟨S + 1, 6, none⟩ = some (.int .u64 (wd m 5 : Int)) ∧ W.cell? ⟨S + 1, 7, none⟩ = some (.int .u64 (wd m 6 : Int)) ∧ W.cell? ⟨S + 1, 8, none⟩ = some (.int .u64 (wd m 7 : Int)) ∧ W.cell? ⟨R, 0, none⟩ = some (.bool x) ∧ W.cell? ⟨R, 1, none⟩ = some (.int .u64 (wd g 0 : Int)) ∧ W.cell? ⟨R, 2, none⟩ = some (.int .u64 (wd g 1 : Int)) ∧ W.cell? ⟨R, 3, none⟩ = some (.int .u64 (wd g 2 : Int)) ∧ W.cell? ⟨R, 4, none⟩ = some (.int .u64 (wd g 3 : Int)) ∧ W.cell? ⟨R, 5, none⟩ = some (.int .u64 (wd g 4 : Int)) ∧ W.cell? ⟨R, 6, none⟩ = some (.int .u64 (wd g 5 : Int)) ∧ W.cell? ⟨R, 7, none⟩ = some (.int .u64 (wd g 6 : Int)) ∧ W.cell? ⟨R, 8, none⟩ = some (.int .u64 (wd g 7 : Int)) := make_cells h.i1 h.i2 h.i3
def MkOut (w W : World) (S R E : Nat) (s : Bool) (n : Nat) (t : Bool) (m : Nat) (x : Bool) (g : Nat) (z : Bool) (q p : Nat) (v : Value) : Prop := ∃ L, v = .pointer (some ⟨L, 0, none⟩) ∧ E < L ∧ RatAt W L z q false p ∧ MkInv w W S R E s n t m x g
def makeV (s : Bool) (n : Nat) (t : Bool) (m : Nat) : Value := if m = 0 then .tuple #[ratV false 0 false 0, errV 10] else .tuple #[ratV (sgn (s != t) (n / Nat.gcd n m)) (n / Nat.gcd n m) false (m / Nat.gcd n m), .nilIface]
set_option maxRecDepth 100000 in
set_option maxHeartbeats 4000000 in
theorem Make_zero0 (s : Bool) (n : Nat) (t : Bool) (w : World) :
  Calls Tryz.prog 219 #[intV s n, intV t 0] w fun e w' => e = .returned (.tuple #[.agg #[.bool false, .int .u64 0, .int .u64 0, .int .u64 0, .int .u64 0, .int .u64 0, .int .u64 0, .int .u64 0, .int .u64 0, .bool false, .int .u64 0, .int .u64 0, .int .u64 0, .int .u64 0, .int .u64 0, .int .u64 0, .int .u64 0, .int .u64 0], .iface 35 (.int .i64 10)]) ∧ Below w.heap.size w w' := by
 have HS := Lib.hid (fun W => sign_run t 0 0 W (Nat.pow_pos (by decide)) (Lib.hid rfl))
 obtain ⟨S, hS⟩ : ∃ S, w.heap.size = S := ⟨_, rfl⟩
 obtain ⟨W, hW⟩ : ∃ W, ((w.alloc (boxI s n 92)).alloc (boxI t 0 92)).alloc (boxRZ 94) = W := ⟨_, rfl⟩
 have T := make_boxes w s n t 0 92 92 94
 rw [hW, hS] at T
 have HT := Lib.hid T
 obtain ⟨⟨a0, x0⟩, ⟨a1, x1⟩, ⟨a2, x2⟩, ⟨a3, x3⟩, ⟨a4, x4⟩, ⟨a5, x5⟩, ⟨a6, x6⟩, ⟨a7, x7⟩, ⟨a8, x8⟩⟩ := T.2.1.nine
 rw [hS]
 clear T
 unfold intV at HS ⊢
 go_enter Tryz.func219, Tryz.ntmps219
 go_wp2_with fail
 refine (HS.out _).mono ?_
 rintro e w1 ⟨rfl, hw1⟩
 have hWs : W.heap.size = S + 1 + 1 + 1 := HT.out.2.2.2.2
 have I3 := HT.out.2.2.1.keep hw1 (by omega)
 have B1 : Hid (Below S w w1) := HT.out.2.2.2.1.trans (hw1.mono (by omega))
 have H3 := Lib.hid I3
 clear hw1 HT hW hWs I3 a0 a1 a2 a3 a4 a5 a6 a7 a8 x0 x1 x2 x3 x4 x5 x6 x7 x8
 go_wp2_with (refine wpList_store_rat rfl (.tmp 4) (.tmp 12) rfl (b := S + 1 + 1) (s := false) (n := 0) (t := false) (d := 0) rfl ratV_zero.symm H3.out ?_)
 refine bodyPost_ret (v := .tuple #[ratV false 0 false 0, .iface 35 (.int .i64 10)]) (results_rat rfl rfl rfl (st18_at H3.out)) rfl ⟨by rw [ratV_zero], ?_⟩
 exact (st18_but w1 (S + 1 + 1) false 0 false 0).2.1 S w (by omega) B1.out
theorem Make_zero (s : Bool) (n : Nat) (t : Bool) (w : World) :
  Calls Tryz.prog 219 #[intV s n, intV t 0] w fun e w' => e = .returned (makeV s n t 0) ∧ Below w.heap.size w w' :=
 (Make_zero0 s n t w).mono fun e w' ⟨he, hw⟩ => ⟨by rw [he, makeV, if_pos rfl, ratV_zero, errV_pos (show 10 ≠ 0 by decide)]; rfl, hw⟩
end Go.Proofs.YtgkhjeefcflmcaaGreatDoor
namespace Go.Proofs.YtgkhjeefcflmcaaGreatDoor
open Go.RowKit Go.Sort
def vld (s : Bool) (n : Nat) (t : Bool) (d : Nat) : Bool := (sgn s n == s) && (!t) && decide (0 < d) && (Nat.gcd n d == 1)
def chk (s : Bool) (n : Nat) (t : Bool) (d : Nat) : Nat := if vld s n t d then 0 else 8
set_option maxRecDepth 100000 in
set_option maxHeartbeats 8000000 in
theorem Check_run (s : Bool) (n : Nat) (t : Bool) (d : Nat) (w : World) (hn : Hid (Fits n)) (hd : Hid (Fits d)) :
  Calls Tryz.prog 189 #[ratV s n t d] w fun e w' => e = .returned (errV (chk s n t d)) ∧ Below w.heap.size w w' := by
 obtain ⟨S, hS⟩ : ∃ S, w.heap.size = S := ⟨_, rfl⟩
 obtain ⟨W, hW⟩ : ∃ W, w.alloc (boxR s n t d 94) = W := ⟨_, rfl⟩
 have T1 := RatAt.new w s n t d 94
 have T2 := below_alloc w (boxR s n t d 94)
 have T3 : (w.alloc (boxR s n t d 94)).heap.size = w.heap.size + 1 := by simp
 rw [hW] at T1 T2 T3
 rw [hS] at T1 T2 T3 ⊢
 have HC1 := Lib.hid (fun W => Canon_run s n W hn)
 have HC2 := Lib.hid (fun W => Canon_run t d W hd)
 obtain ⟨c, hc⟩ : ∃ c, sgZ t d = c := ⟨_, rfl⟩
 have HS := Lib.hid (fun W => sign_run t d c W hd hc)
 have HG := Lib.hid (fun W => Gcd_run s n t d W hn hd)
 have HO := Lib.hid (fun W => Of_run 1 W (by decide) (by decide))
 have hg : Fits (Nat.gcd n d) := by
  rcases Nat.eq_zero_or_pos n with h | h
  ·subst h; rw [Nat.gcd_zero_left]; exact hd.out
  ·exact Nat.lt_of_le_of_lt (Nat.gcd_le_left d h) hn.out
 have E1 := fun W => eqInt s n (sgn s n) n W hn.out hn.out
 have E2 := fun W => eqInt t d (sgn t d) d W hd.out hd.out
 obtain ⟨g, hgg⟩ : ∃ g, Nat.gcd n d = g := ⟨_, rfl⟩
 rw [hgg] at hg HG
 have E3 := fun W => neInt false g false 1 W hg (show Fits 1 from Nat.one_lt_pow (by decide) (by decide))
 have HR : Hid (chk s n t d = if decide (s = sgn s n ∧ n = n) = true ∧ decide (t = sgn t d ∧ d = d) = true ∧ 0 < c ∧ decide (false = false ∧ g = 1) = true then 0 else 8) := by
  show _ = _
  rw [← hc]
  unfold chk vld sgZ sgn
  rw [hgg]
  rcases Nat.eq_zero_or_pos d with h2 | h2
  ·subst h2; simp
  ·have h2' : d ≠ 0 := by omega
   by_cases h1 : n = 0 <;> by_cases h3 : g = 1 <;> cases s <;> cases t <;> simp [h1, h2, h2', h3]
 obtain ⟨s', hs'⟩ : ∃ s', sgn s n = s' := ⟨_, rfl⟩
 obtain ⟨t', ht'⟩ : ∃ t', sgn t d = t' := ⟨_, rfl⟩
 rw [hs'] at HC1 E1 HR
 rw [ht'] at HC2 E2 HR
 obtain ⟨c1, hc1⟩ : ∃ c, decide (s = s' ∧ n = n) = c := ⟨_, rfl⟩
 obtain ⟨c2, hc2⟩ : ∃ c, decide (t = t' ∧ d = d) = c := ⟨_, rfl⟩
 obtain ⟨c3, hc3⟩ : ∃ c, decide (false = false ∧ g = 1) = c := ⟨_, rfl⟩
 rw [hc1] at E1 HR
 rw [hc2] at E2 HR
 rw [hc3] at E3 HR
 have HK : Hid (∀ w1, Below W.drew.heap.size W.drew w1 → RatAt w1 S s n t d ∧ Below S w w1 ∧ S + 1 ≤ w1.heap.size) := fun w1 hw1 => by
  have hz : W.drew.heap.size = S + 1 := T3
  exact ⟨RatAt.keep (w := W.drew) T1.drew hw1 (by omega), T2.drew.trans (hw1.mono (by omega)), by have := hw1.size; omega⟩
 have hO : intV (decide ((1 : Int) < 0)) (1 : Int).natAbs = intV false 1 := rfl
 rw [hO] at HO
 have D0 := Lib.hid T1.drew.cells
 have HT1 := Lib.hid T1
 clear hO hc hc1 hc2 hc3 hs' ht' hgg hg T1 T2 T3 hn hd
 unfold intV at E1 E2 E3 HC1 HC2 HS HG HO
 unfold ratV
 cases c1 with
 | false =>
  have HV : Hid (chk s n t d = 8) := by show _ = _; rw [HR.out]; simp
  clear HR
  go_enter Tryz.func189, Tryz.ntmps189
  go_upto_region 1 with fail
  obtain ⟨⟨a0, x0⟩, ⟨a1, x1⟩, ⟨a2, x2⟩, ⟨a3, x3⟩, ⟨a4, x4⟩, ⟨a5, x5⟩, ⟨a6, x6⟩, ⟨a7, x7⟩, ⟨a8, x8⟩⟩ := HT1.out.num.nine0
  clear x0 x1 x2 x3 x4 x5 x6 x7 x8
  first | (go_region_with (go_at_call 216; ((with_reducible refine (HC1.out _).mono ?_); rintro e w2 ⟨rfl, hw2⟩); obtain ⟨L1, LB, lz⟩ := HK.out _ hw2; have HLB := Lib.hid LB; obtain ⟨⟨e0, f0⟩, ⟨e1, f1⟩, ⟨e2, f2⟩, ⟨e3, f3⟩, ⟨e4, f4⟩, ⟨e5, f5⟩, ⟨e6, f6⟩, ⟨e7, f7⟩, ⟨e8, f8⟩⟩ := L1.num.nine0; clear L1 LB lz hw2)) | fail
  all_goals go_wp2_with fail
  all_goals go_ret
  all_goals exact ⟨by rw [HV.out]; rfl, HLB.out⟩
 | true => cases c2 with
  | false =>
   have HV : Hid (chk s n t d = 8) := by show _ = _; rw [HR.out]; simp
   clear HR
   go_enter Tryz.func189, Tryz.ntmps189
   go_upto_region 1 with fail
   go_region_held3 (fun W' => W'.cell? ⟨S, 0, none⟩ = some (.bool s) ∧ W'.cell? ⟨S, 1, none⟩ = some (.int .u64 (wd n 0 : Int)) ∧ W'.cell? ⟨S, 2, none⟩ = some (.int .u64 (wd n 1 : Int)) ∧ W'.cell? ⟨S, 3, none⟩ = some (.int .u64 (wd n 2 : Int)) ∧ W'.cell? ⟨S, 4, none⟩ = some (.int .u64 (wd n 3 : Int)) ∧ W'.cell? ⟨S, 5, none⟩ = some (.int .u64 (wd n 4 : Int)) ∧ W'.cell? ⟨S, 6, none⟩ = some (.int .u64 (wd n 5 : Int)) ∧ W'.cell? ⟨S, 7, none⟩ = some (.int .u64 (wd n 6 : Int)) ∧ W'.cell? ⟨S, 8, none⟩ = some (.int .u64 (wd n 7 : Int)) ∧ W'.cell? ⟨S, 9, none⟩ = some (.bool t) ∧ W'.cell? ⟨S, 10, none⟩ = some (.int .u64 (wd d 0 : Int)) ∧ W'.cell? ⟨S, 11, none⟩ = some (.int .u64 (wd d 1 : Int)) ∧ W'.cell? ⟨S, 12, none⟩ = some (.int .u64 (wd d 2 : Int)) ∧ W'.cell? ⟨S, 13, none⟩ = some (.int .u64 (wd d 3 : Int)) ∧ W'.cell? ⟨S, 14, none⟩ = some (.int .u64 (wd d 4 : Int)) ∧ W'.cell? ⟨S, 15, none⟩ = some (.int .u64 (wd d 5 : Int)) ∧ W'.cell? ⟨S, 16, none⟩ = some (.int .u64 (wd d 6 : Int)) ∧ W'.cell? ⟨S, 17, none⟩ = some (.int .u64 (wd d 7 : Int))) (first | with_reducible exact D0.out | with_reducible exact D1.out | with_reducible exact D2.out)
    (first | (go_at_call 216; have HLX := HLB; clear HLX; ((with_reducible refine (HC2.out _).mono ?_); rintro e w3 ⟨rfl, hw3⟩); have M1 := HL1.out.keep hw3 (by omega); have D2 := Lib.hid M1.cells; have HM1 := Lib.hid M1; have HMB := Lib.hid (HLB.out.trans (hw3.mono (by omega))); have mz := Nat.le_trans lz hw3.size; clear M1 hw3) | (go_at_call 216; ((with_reducible refine (HC1.out _).mono ?_); rintro e w2 ⟨rfl, hw2⟩); obtain ⟨L1, LB, lz⟩ := HK.out _ hw2; have D1 := Lib.hid L1.cells; have HL1 := Lib.hid L1; have HLB := Lib.hid LB; clear L1 LB hw2))
   go_wp2_with fail
   go_ret
   exact ⟨by rw [HV.out]; rfl, HMB.out⟩
  | true =>
   go_enter Tryz.func189, Tryz.ntmps189
   go_upto_region 1 with fail
   go_region_held3 (fun W' => W'.cell? ⟨S, 0, none⟩ = some (.bool s) ∧ W'.cell? ⟨S, 1, none⟩ = some (.int .u64 (wd n 0 : Int)) ∧ W'.cell? ⟨S, 2, none⟩ = some (.int .u64 (wd n 1 : Int)) ∧ W'.cell? ⟨S, 3, none⟩ = some (.int .u64 (wd n 2 : Int)) ∧ W'.cell? ⟨S, 4, none⟩ = some (.int .u64 (wd n 3 : Int)) ∧ W'.cell? ⟨S, 5, none⟩ = some (.int .u64 (wd n 4 : Int)) ∧ W'.cell? ⟨S, 6, none⟩ = some (.int .u64 (wd n 5 : Int)) ∧ W'.cell? ⟨S, 7, none⟩ = some (.int .u64 (wd n 6 : Int)) ∧ W'.cell? ⟨S, 8, none⟩ = some (.int .u64 (wd n 7 : Int)) ∧ W'.cell? ⟨S, 9, none⟩ = some (.bool t) ∧ W'.cell? ⟨S, 10, none⟩ = some (.int .u64 (wd d 0 : Int)) ∧ W'.cell? ⟨S, 11, none⟩ = some (.int .u64 (wd d 1 : Int)) ∧ W'.cell? ⟨S, 12, none⟩ = some (.int .u64 (wd d 2 : Int)) ∧ W'.cell? ⟨S, 13, none⟩ = some (.int .u64 (wd d 3 : Int)) ∧ W'.cell? ⟨S, 14, none⟩ = some (.int .u64 (wd d 4 : Int)) ∧ W'.cell? ⟨S, 15, none⟩ = some (.int .u64 (wd d 5 : Int)) ∧ W'.cell? ⟨S, 16, none⟩ = some (.int .u64 (wd d 6 : Int)) ∧ W'.cell? ⟨S, 17, none⟩ = some (.int .u64 (wd d 7 : Int))) (first | with_reducible exact D0.out | with_reducible exact D1.out | with_reducible exact D2.out)
    (first | (go_at_call 216; have HLX := HLB; clear HLX; ((with_reducible refine (HC2.out _).mono ?_); rintro e w3 ⟨rfl, hw3⟩); have M1 := HL1.out.keep hw3 (by omega); have D2 := Lib.hid M1.cells; have HM1 := Lib.hid M1; have HMB := Lib.hid (HLB.out.trans (hw3.mono (by omega))); have mz := Nat.le_trans lz hw3.size; clear M1 hw3) | (go_at_call 216; ((with_reducible refine (HC1.out _).mono ?_); rintro e w2 ⟨rfl, hw2⟩); obtain ⟨L1, LB, lz⟩ := HK.out _ hw2; have D1 := Lib.hid L1.cells; have HL1 := Lib.hid L1; have HLB := Lib.hid LB; clear L1 LB hw2))
   obtain ⟨⟨a0, x0⟩, ⟨a1, x1⟩, ⟨a2, x2⟩, ⟨a3, x3⟩, ⟨a4, x4⟩, ⟨a5, x5⟩, ⟨a6, x6⟩, ⟨a7, x7⟩, ⟨a8, x8⟩⟩ := HM1.out.num.nine0
   obtain ⟨⟨p0, y0⟩, ⟨p1, y1⟩, ⟨p2, y2⟩, ⟨p3, y3⟩, ⟨p4, y4⟩, ⟨p5, y5⟩, ⟨p6, y6⟩, ⟨p7, y7⟩, ⟨p8, y8⟩⟩ := HM1.out.den.nine9
   clear x0 x1 x2 x3 x4 x5 x6 x7 x8 y0 y1 y2 y3 y4 y5 y6 y7 y8 D0 D1 D2 HK HL1 HLB
   by_cases hc0 : c ≤ 0
   ·have HV : Hid (chk s n t d = 8) := by show _ = _; rw [HR.out]; simp; intro h; omega
    clear HR
    go_wp2_with fail
    refine (HS.out _).mono ?_
    rintro e w4 ⟨rfl, hw4⟩
    have B4 := Lib.hid (HMB.out.trans (hw4.mono (by omega)))
    clear hw4
    go_wp2_with fail
    go_ret
    exact ⟨by rw [HV.out]; rfl, B4.out⟩
   ·go_wp2_with fail
    refine (HS.out _).mono ?_
    rintro e w4 ⟨rfl, hw4⟩
    have M4 := HM1.out.keep hw4 (by omega)
    have B4 := Lib.hid (HMB.out.trans (hw4.mono (by omega)))
    have z4 := Nat.le_trans mz hw4.size
    clear hw4 mz a0 a1 a2 a3 a4 a5 a6 a7 a8 p0 p1 p2 p3 p4 p5 p6 p7 p8 HM1 HMB
    obtain ⟨⟨a0, x0⟩, ⟨a1, x1⟩, ⟨a2, x2⟩, ⟨a3, x3⟩, ⟨a4, x4⟩, ⟨a5, x5⟩, ⟨a6, x6⟩, ⟨a7, x7⟩, ⟨a8, x8⟩⟩ := M4.num.nine0
    obtain ⟨⟨p0, y0⟩, ⟨p1, y1⟩, ⟨p2, y2⟩, ⟨p3, y3⟩, ⟨p4, y4⟩, ⟨p5, y5⟩, ⟨p6, y6⟩, ⟨p7, y7⟩, ⟨p8, y8⟩⟩ := M4.den.nine9
    clear x0 x1 x2 x3 x4 x5 x6 x7 x8 y0 y1 y2 y3 y4 y5 y6 y7 y8 M4
    go_wp2_with fail
    refine (HG.out _).mono ?_
    rintro e w5 ⟨rfl, hw5⟩
    have B5 := Lib.hid (B4.out.trans (hw5.mono (by omega)))
    have z5 := Nat.le_trans z4 hw5.size
    clear hw5 a0 a1 a2 a3 a4 a5 a6 a7 a8 p0 p1 p2 p3 p4 p5 p6 p7 p8 B4
    go_wp2_with fail
    refine (HO.out _).mono ?_
    rintro e w6 ⟨rfl, hw6⟩
    have B6 := Lib.hid (B5.out.trans (hw6.mono (by omega)))
    clear hw6 B5
    cases c3 with
    | true =>
     have HV : Hid (chk s n t d = 0) := by show _ = _; rw [HR.out]; simp; omega
     clear HR
     go_wp2_with fail
     go_ret
     exact ⟨by rw [HV.out]; rfl, B6.out⟩
    | false =>
     have HV : Hid (chk s n t d = 8) := by show _ = _; rw [HR.out]; simp
     clear HR
     go_wp2_with fail
     go_ret
     exact ⟨by rw [HV.out]; rfl, B6.out⟩
end Go.Proofs.YtgkhjeefcflmcaaGreatDoor
