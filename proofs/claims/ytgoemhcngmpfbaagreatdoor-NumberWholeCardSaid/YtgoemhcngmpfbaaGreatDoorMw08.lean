/-
  Stage 7: a number's box; limb's Canon, Neg, Bits.
-/
import Derived.Test.YtgoemhcngmpfbaaGreatDoorMw07

namespace Go.Proofs.YtgoemhcngmpfbaaGreatDoor
open Go.RowKit Go.Sort

abbrev boxI (s : Bool) (n : Nat) (T : TypeId) : Obj := .cells #[.bool s, .int .u64 (wd n 0 : Int), .int .u64 (wd n 1 : Int), .int .u64 (wd n 2 : Int), .int .u64 (wd n 3 : Int), .int .u64 (wd n 4 : Int), .int .u64 (wd n 5 : Int), .int .u64 (wd n 6 : Int), .int .u64 (wd n 7 : Int)] T
abbrev boxIZ (T : TypeId) : Obj := .cells #[.bool false, .int .u64 0, .int .u64 0, .int .u64 0, .int .u64 0, .int .u64 0, .int .u64 0, .int .u64 0, .int .u64 0] T
/-- A number in block b. -/
structure IntAt (w : World) (b : Nat) (s : Bool) (n : Nat) : Prop where
  sign : w.cell? ⟨b, 0, none⟩ = some (.bool s)
  free : w.frozen? ⟨b, 0, none⟩ = false
  words : WordsAt w b 1 n 8
theorem IntAt.keep {w w' : World} {b n B : Nat} {s : Bool} (h : IntAt w b s n) (hb : Below B w w') (hB : b < B) : IntAt w' b s n :=
  ⟨(hb.cell (p := ⟨b, 0, none⟩) hB).trans h.sign, (hb.frozen (p := ⟨b, 0, none⟩) hB).trans h.free, h.words.keep hb hB⟩
theorem IntAt.alloc {w : World} {b n : Nat} {s : Bool} (h : IntAt w b s n) (hb : b < w.heap.size) (o : Obj) : IntAt (w.alloc o) b s n := h.keep (below_alloc w o) hb
theorem IntAt.but {w w' : World} {b c n : Nat} {s : Bool} (h : IntAt w b s n) (hw : But1 w w' c) (hne : b ≠ c) : IntAt w' b s n :=
  ⟨(hw.1 ⟨b, 0, none⟩ hne).1.trans h.sign, (hw.1 ⟨b, 0, none⟩ hne).2.trans h.free, h.words.but hw hne⟩
theorem IntAt.new (w : World) (s : Bool) (n : Nat) (T : TypeId) : IntAt (w.alloc (boxI s n T)) w.heap.size s n := by
  refine ⟨World.cell?_alloc_at _ _ _ _ rfl, World.frozen?_alloc_at _ _ _ _ rfl, fun i hi => ?_⟩
  rcases i with _ | _ | _ | _ | _ | _ | _ | _ | i
  all_goals first | exact ⟨World.cell?_alloc_at _ _ _ _ rfl, World.frozen?_alloc_at _ _ _ _ rfl⟩ | omega
theorem IntAt.zero (w : World) (T : TypeId) : IntAt (w.alloc (boxIZ T)) w.heap.size false 0 := by
  have := IntAt.new w false 0 T
  simpa only [boxI, wd_zero, Int.natCast_zero] using this
theorem WordsF.eightAt1 {w : World} {b : Nat} {f : Nat → Nat} (h : WordsF w b 1 f 8) :
    (w.cell? ⟨b, 1, none⟩ = some (.int .u64 (f 0 : Int)) ∧ w.frozen? ⟨b, 1, none⟩ = false) ∧ (w.cell? ⟨b, 2, none⟩ = some (.int .u64 (f 1 : Int)) ∧ w.frozen? ⟨b, 2, none⟩ = false) ∧
    (w.cell? ⟨b, 3, none⟩ = some (.int .u64 (f 2 : Int)) ∧ w.frozen? ⟨b, 3, none⟩ = false) ∧ (w.cell? ⟨b, 4, none⟩ = some (.int .u64 (f 3 : Int)) ∧ w.frozen? ⟨b, 4, none⟩ = false) ∧
    (w.cell? ⟨b, 5, none⟩ = some (.int .u64 (f 4 : Int)) ∧ w.frozen? ⟨b, 5, none⟩ = false) ∧ (w.cell? ⟨b, 6, none⟩ = some (.int .u64 (f 5 : Int)) ∧ w.frozen? ⟨b, 6, none⟩ = false) ∧
    (w.cell? ⟨b, 7, none⟩ = some (.int .u64 (f 6 : Int)) ∧ w.frozen? ⟨b, 7, none⟩ = false) ∧ (w.cell? ⟨b, 8, none⟩ = some (.int .u64 (f 7 : Int)) ∧ w.frozen? ⟨b, 8, none⟩ = false) :=
  ⟨h 0 (by decide), h 1 (by decide), h 2 (by decide), h 3 (by decide), h 4 (by decide), h 5 (by decide), h 6 (by decide), h 7 (by decide)⟩
/-- Nine stores. -/
def st9 (w : World) (b : Nat) (s : Bool) (n : Nat) : World := ((((((((w.setCell ⟨b, 0, none⟩ (.bool s)).setCell ⟨b, 1, none⟩ (.int .u64 (wd n 0 : Int))).setCell ⟨b, 2, none⟩ (.int .u64 (wd n 1 : Int))).setCell ⟨b, 3, none⟩ (.int .u64 (wd n 2 : Int))).setCell ⟨b, 4, none⟩ (.int .u64 (wd n 3 : Int))).setCell ⟨b, 5, none⟩ (.int .u64 (wd n 4 : Int))).setCell ⟨b, 6, none⟩ (.int .u64 (wd n 5 : Int))).setCell ⟨b, 7, none⟩ (.int .u64 (wd n 6 : Int))).setCell ⟨b, 8, none⟩ (.int .u64 (wd n 7 : Int))
theorem st9_but (w : World) (b : Nat) (s : Bool) (n : Nat) : But1 w (st9 w b s n) b :=
  ((((((((But1.setCell w b 0 _).trans (But1.setCell _ b 1 _)).trans (But1.setCell _ b 2 _)).trans (But1.setCell _ b 3 _)).trans (But1.setCell _ b 4 _)).trans (But1.setCell _ b 5 _)).trans (But1.setCell _ b 6 _)).trans (But1.setCell _ b 7 _)).trans (But1.setCell _ b 8 _)
theorem st9_at {w : World} {b n m : Nat} {s t : Bool} (h : IntAt w b s n) : IntAt (st9 w b t m) b t m := by
  have h0 : WordsF (w.setCell ⟨b, 0, none⟩ (.bool t)) b 1 (wd n) 8 := fun i hi =>
    ⟨(World.cell?_setCell_other _ _ _ _ (fun e => by injection e with _ e2 _; omega)).trans (h.words i hi).1, by rw [World.frozen?_setCell]; exact (h.words i hi).2⟩
  have h8 := (((((((h0.upd (i := 0) (by decide) (wd m 0)).upd (i := 1) (by decide) (wd m 1)).upd (i := 2) (by decide) (wd m 2)).upd (i := 3) (by decide) (wd m 3)).upd (i := 4) (by decide) (wd m 4)).upd (i := 5) (by decide) (wd m 5)).upd (i := 6) (by decide) (wd m 6)).upd (i := 7) (by decide) (wd m 7)
  have c0 : (w.setCell ⟨b, 0, none⟩ (.bool t)).cell? ⟨b, 0, none⟩ = some (.bool t) := World.cell?_setCell_same _ _ _ h.sign
  refine ⟨?_, ?_, ?_⟩
  · unfold st9
    iterate 8 rw [World.cell?_setCell_other _ _ _ _ (by simp)]
    exact c0
  · unfold st9
    simp only [World.frozen?_setCell]
    exact h.free
  · refine WordsF.ext (f := updF (updF (updF (updF (updF (updF (updF (updF (wd n) 0 (wd m 0)) 1 (wd m 1)) 2 (wd m 2)) 3 (wd m 3)) 4 (wd m 4)) 5 (wd m 5)) 6 (wd m 6)) 7 (wd m 7)) h8 fun t ht => ?_
    rcases t with _ | _ | _ | _ | _ | _ | _ | _ | t
    all_goals first | rfl | omega
/-- The ways the nine cells of a number's box are taken. -/
theorem IntAt.value {w : World} {b n : Nat} {s : Bool} (h : IntAt w b s n) : (w.cell? ⟨b, 0, none⟩ = some (.bool s) ∧ w.frozen? ⟨b, 0, none⟩ = false) := ⟨h.sign, h.free⟩
set_option maxRecDepth 100000 in
set_option maxHeartbeats 4000000 in
theorem Canon_run (s : Bool) (n : Nat) (w : World) (hn : Hid (Fits n)) :
    Calls Tryz.prog 51 #[intV s n] w fun e w' => e = .returned (intV (sgn s n) n) ∧ Below w.heap.size w w' := by
  have HC := Lib.hid (fun W => signed_run s n W hn)
  obtain ⟨S, hS⟩ : ∃ S, w.heap.size = S := ⟨_, rfl⟩
  have Z0 := IntAt.zero (w.alloc (boxI s n 25)) 25
  have B0 : Below w.heap.size w ((w.alloc (boxI s n 25)).alloc (boxIZ 25)) := (below_alloc w _).alloc (by simp) _
  have z0 : ((w.alloc (boxI s n 25)).alloc (boxIZ 25)).heap.size = w.heap.size + 1 + 1 := by simp
  obtain ⟨t, ht⟩ : ∃ t, sgn s n = t := ⟨_, rfl⟩
  rw [ht] at HC ⊢
  have e1 : (w.alloc (boxI s n 25)).heap.size = w.heap.size + 1 := by simp
  rw [e1, hS] at Z0
  rw [hS] at B0 z0 ⊢
  have HZ := Lib.hid Z0
  have HB := Lib.hid B0
  have Hz := Lib.hid z0
  clear Z0 B0 z0 e1 ht
  unfold wordsV at HC
  unfold intV at HC ⊢
  go_enter Tryz.func51, Tryz.ntmps51
  go_wp2_with fail
  refine (HC.out _).mono ?_
  rintro e w1 ⟨rfl, hw1⟩
  have Z1 := HZ.out.keep hw1 (by rw [Hz.out]; omega)
  have B1 : Hid (Below S w w1) := HB.out.trans (hw1.mono (by rw [Hz.out]; omega))
  obtain ⟨a0, b0⟩ := Z1.value
  obtain ⟨⟨c0, d0⟩, ⟨c1, d1⟩, ⟨c2, d2⟩, ⟨c3, d3⟩, ⟨c4, d4⟩, ⟨c5, d5⟩, ⟨c6, d6⟩, ⟨c7, d7⟩⟩ := Z1.words.eightAt1
  clear hw1 Z1 HZ HB Hz
  go_wp2_with fail
  refine bodyPost_ret (v := intV t n) (by rw [results_cell1 rfl]; go_simp; try rfl) rfl ⟨rfl, ?_⟩
  exact (st9_but w1 (S + 1) t n).2.1 S w (by omega) B1.out
set_option maxRecDepth 100000 in
set_option maxHeartbeats 4000000 in
theorem Neg_run (s : Bool) (n : Nat) (w : World) (hn : Hid (Fits n)) :
    Calls Tryz.prog 21 #[intV s n] w fun e w' => e = .returned (intV (sgn (!s) n) n) ∧ Below w.heap.size w w' := by
  have HC := Lib.hid (fun W => signed_run (!s) n W hn)
  obtain ⟨S, hS⟩ : ∃ S, w.heap.size = S := ⟨_, rfl⟩
  have Z0 := IntAt.zero (w.alloc (boxI s n 25)) 25
  have B0 : Below w.heap.size w ((w.alloc (boxI s n 25)).alloc (boxIZ 25)) := (below_alloc w _).alloc (by simp) _
  have z0 : ((w.alloc (boxI s n 25)).alloc (boxIZ 25)).heap.size = w.heap.size + 1 + 1 := by simp
  obtain ⟨t, ht⟩ : ∃ t, sgn (!s) n = t := ⟨_, rfl⟩
  rw [ht] at HC ⊢
  have e1 : (w.alloc (boxI s n 25)).heap.size = w.heap.size + 1 := by simp
  rw [e1, hS] at Z0
  rw [hS] at B0 z0 ⊢
  have HZ := Lib.hid Z0
  have HB := Lib.hid B0
  have Hz := Lib.hid z0
  clear Z0 B0 z0 e1 ht
  unfold wordsV at HC
  unfold intV at HC ⊢
  go_enter Tryz.func21, Tryz.ntmps21
  go_wp2_with fail
  refine (HC.out _).mono ?_
  rintro e w1 ⟨rfl, hw1⟩
  have Z1 := HZ.out.keep hw1 (by rw [Hz.out]; omega)
  have B1 : Hid (Below S w w1) := HB.out.trans (hw1.mono (by rw [Hz.out]; omega))
  obtain ⟨a0, b0⟩ := Z1.value
  obtain ⟨⟨c0, d0⟩, ⟨c1, d1⟩, ⟨c2, d2⟩, ⟨c3, d3⟩, ⟨c4, d4⟩, ⟨c5, d5⟩, ⟨c6, d6⟩, ⟨c7, d7⟩⟩ := Z1.words.eightAt1
  clear hw1 Z1 HZ HB Hz
  go_wp2_with fail
  refine bodyPost_ret (v := intV t n) (by rw [results_cell1 rfl]; go_simp; try rfl) rfl ⟨rfl, ?_⟩
  exact (st9_but w1 (S + 1) t n).2.1 S w (by omega) B1.out
end Go.Proofs.YtgoemhcngmpfbaaGreatDoor

/-
  Stage 7: limb's Cmp.
-/
namespace Go.Proofs.YtgoemhcngmpfbaaGreatDoor
open Go.RowKit Go.Sort

theorem IntAt.nine {w : World} {b n : Nat} {s : Bool} (h : IntAt w b s n) :
    (w.cell? ⟨b, 0, none⟩ = some (.bool s) ∧ w.frozen? ⟨b, 0, none⟩ = false) ∧ (w.cell? ⟨b, 1, none⟩ = some (.int .u64 (wd n 0 : Int)) ∧ w.frozen? ⟨b, 1, none⟩ = false) ∧ (w.cell? ⟨b, 2, none⟩ = some (.int .u64 (wd n 1 : Int)) ∧ w.frozen? ⟨b, 2, none⟩ = false) ∧
    (w.cell? ⟨b, 3, none⟩ = some (.int .u64 (wd n 2 : Int)) ∧ w.frozen? ⟨b, 3, none⟩ = false) ∧ (w.cell? ⟨b, 4, none⟩ = some (.int .u64 (wd n 3 : Int)) ∧ w.frozen? ⟨b, 4, none⟩ = false) ∧
    (w.cell? ⟨b, 5, none⟩ = some (.int .u64 (wd n 4 : Int)) ∧ w.frozen? ⟨b, 5, none⟩ = false) ∧ (w.cell? ⟨b, 6, none⟩ = some (.int .u64 (wd n 5 : Int)) ∧ w.frozen? ⟨b, 6, none⟩ = false) ∧
    (w.cell? ⟨b, 7, none⟩ = some (.int .u64 (wd n 6 : Int)) ∧ w.frozen? ⟨b, 7, none⟩ = false) ∧ (w.cell? ⟨b, 8, none⟩ = some (.int .u64 (wd n 7 : Int)) ∧ w.frozen? ⟨b, 8, none⟩ = false) :=
  ⟨⟨h.sign, h.free⟩, h.words.eightAt1⟩
theorem IntAt.drew {w : World} {b n : Nat} {s : Bool} (h : IntAt w b s n) : IntAt w.drew b s n := ⟨h.sign, h.free, h.words⟩
/-- Two numbers in their boxes. -/
theorem two_ints (w : World) (s : Bool) (n : Nat) (t : Bool) (m : Nat) (T U : TypeId) : IntAt ((w.alloc (boxI s n T)).alloc (boxI t m U)) w.heap.size s n ∧ IntAt ((w.alloc (boxI s n T)).alloc (boxI t m U)) (w.heap.size + 1) t m ∧ Below w.heap.size w ((w.alloc (boxI s n T)).alloc (boxI t m U)) ∧ ((w.alloc (boxI s n T)).alloc (boxI t m U)).heap.size = w.heap.size + 1 + 1 := by
  refine ⟨(IntAt.new w s n T).alloc (by simp) _, ?_, (below_alloc w _).alloc (by simp) _, by simp⟩
  have := IntAt.new (w.alloc (boxI s n T)) t m U
  simpa using this
/-- How two numbers stand. -/
def cmpS (s : Bool) (n : Nat) (t : Bool) (m : Nat) : Int := if sgn s n then (if sgn t m then cmpN m n else -1) else (if sgn t m then 1 else cmpN n m)
set_option maxRecDepth 100000 in
set_option maxHeartbeats 8000000 in
theorem Cmp_run (s : Bool) (n : Nat) (t : Bool) (m : Nat) (c : Int) (w : World) (hn : Hid (Fits n)) (hm : Hid (Fits m)) (hc : Hid (cmpS s n t m = c)) :
    Calls Tryz.prog 34 #[intV s n, intV t m] w fun e w' => e = .returned (.int .i64 c) ∧ Below w.heap.size w w' := by
  have HC1 := Lib.hid (fun W => Canon_run s n W hn)
  have HC2 := Lib.hid (fun W => Canon_run t m W hm)
  obtain ⟨S, hS⟩ : ∃ S, w.heap.size = S := ⟨_, rfl⟩
  obtain ⟨W, hW⟩ : ∃ W, (w.alloc (boxI s n 25)).alloc (boxI t m 25) = W := ⟨_, rfl⟩
  have T := two_ints w s n t m 25 25
  rw [hW, hS] at T
  obtain ⟨s', hs'⟩ : ∃ s', sgn s n = s' := ⟨_, rfl⟩
  obtain ⟨t', ht'⟩ : ∃ t', sgn t m = t' := ⟨_, rfl⟩
  rw [hs'] at HC1
  rw [ht'] at HC2
  have HV : Hid (c = if s' then (if t' then cmpN m n else -1) else (if t' then 1 else cmpN n m)) := by show _ = _; rw [← hc.out, cmpS, hs', ht']
  have HK1 : Hid (∀ w1, Below W.drew.heap.size W.drew w1 → IntAt w1 S s n ∧ IntAt w1 (S + 1) t m ∧ Below S w w1 ∧ S + 1 + 1 ≤ w1.heap.size) := fun w1 hw1 =>
    ⟨IntAt.keep (w := W.drew) T.1.drew hw1 (by show S < W.heap.size; omega), IntAt.keep (w := W.drew) T.2.1.drew hw1 (by show S + 1 < W.heap.size; omega), T.2.2.1.drew.trans (hw1.mono (by show S ≤ W.heap.size; omega)), by have := hw1.size; have h2 : W.drew.heap.size = W.heap.size := rfl; omega⟩
  obtain ⟨⟨a0, b0⟩, ⟨a1, b1⟩, ⟨a2, b2⟩, ⟨a3, b3⟩, ⟨a4, b4⟩, ⟨a5, b5⟩, ⟨a6, b6⟩, ⟨a7, b7⟩, ⟨a8, b8⟩⟩ := T.1.nine
  obtain ⟨⟨c0, d0⟩, ⟨c1, d1⟩, ⟨c2, d2⟩, ⟨c3, d3⟩, ⟨c4, d4⟩, ⟨c5, d5⟩, ⟨c6, d6⟩, ⟨c7, d7⟩, ⟨c8, d8⟩⟩ := T.2.1.nine
  clear T hs' ht'
  rw [hS]
  unfold intV at HC1 HC2 ⊢
  go_enter Tryz.func34, Tryz.ntmps34
  go_upto_region 1 with fail
  go_cut [] (fun wx => IntAt wx S s' n ∧ IntAt wx (S + 1) t' m ∧ Below S w wx)
  case first =>
    go_region_with (go_at_call 51; first | (refine (HC1.out _).mono ?_; rintro e w1 ⟨rfl, hw1⟩; obtain ⟨I1, I2, B1, z1⟩ := HK1.out _ hw1; have HI1 := Lib.hid I1; have HI2 := Lib.hid I2; have HB1 := Lib.hid B1; obtain ⟨⟨e0, f0⟩, ⟨e1, f1⟩, ⟨e2, f2⟩, ⟨e3, f3⟩, ⟨e4, f4⟩, ⟨e5, f5⟩, ⟨e6, f6⟩, ⟨e7, f7⟩, ⟨e8, f8⟩⟩ := I2.nine; clear I1 I2 B1 hw1) | (refine (HC2.out _).mono ?_; rintro e w2 ⟨rfl, hw2⟩; have J1 := Lib.hid (HI1.out.keep hw2 (by omega)); have J2 := Lib.hid (HI2.out.keep hw2 (by omega)); have BB := Lib.hid (HB1.out.trans (hw2.mono (by omega))); obtain ⟨⟨g0, h0⟩, ⟨g1, h1⟩, ⟨g2, h2⟩, ⟨g3, h3⟩, ⟨g4, h4⟩, ⟨g5, h5⟩, ⟨g6, h6⟩, ⟨g7, h7⟩, ⟨g8, h8⟩⟩ := J1.out.nine; obtain ⟨⟨i0, j0⟩, ⟨i1, j1⟩, ⟨i2, j2⟩, ⟨i3, j3⟩, ⟨i4, j4⟩, ⟨i5, j5⟩, ⟨i6, j6⟩, ⟨i7, j7⟩, ⟨i8, j8⟩⟩ := J2.out.nine; clear hw2))
    all_goals go_wp2_with fail
    all_goals go_meet
    all_goals exact ⟨(st9_at J1.out).but (st9_but _ (S + 1) t' m) (by omega), st9_at (J2.out.but (st9_but _ S s' n) (by omega)), (st9_but _ (S + 1) t' m).2.1 S w (by omega) ((st9_but _ S s' n).2.1 S w (by omega) BB.out)⟩
  case rest =>
    obtain ⟨K1, K2, KB⟩ := hcut
    have HKB := Lib.hid KB
    obtain ⟨⟨g0, h0⟩, ⟨g1, h1⟩, ⟨g2, h2⟩, ⟨g3, h3⟩, ⟨g4, h4⟩, ⟨g5, h5⟩, ⟨g6, h6⟩, ⟨g7, h7⟩, ⟨g8, h8⟩⟩ := K1.nine
    obtain ⟨⟨i0, j0⟩, ⟨i1, j1⟩, ⟨i2, j2⟩, ⟨i3, j3⟩, ⟨i4, j4⟩, ⟨i5, j5⟩, ⟨i6, j6⟩, ⟨i7, j7⟩, ⟨i8, j8⟩⟩ := K2.nine
    have HP1 : Hid (∀ W, Calls Tryz.prog 74 #[wordsV n, wordsV m] W fun e w' => e = .returned (.int .i64 (cmpN n m)) ∧ Below W.heap.size W w') := fun W => compare_run n m _ W hn hm rfl
    have HP2 : Hid (∀ W, Calls Tryz.prog 74 #[wordsV m, wordsV n] W fun e w' => e = .returned (.int .i64 (cmpN m n)) ∧ Below W.heap.size W w') := fun W => compare_run m n _ W hm hn rfl
    have hz : S ≤ wc.heap.size := by have := KB.size; omega
    unfold wordsV at HP1 HP2
    clear KB K1 K2 HK1 HC1 HC2 hW a0 a1 a2 a3 a4 a5 a6 a7 a8 b0 b1 b2 b3 b4 b5 b6 b7 b8 c0 c1 c2 c3 c4 c5 c6 c7 c8 d0 d1 d2 d3 d4 d5 d6 d7 d8
    cases s' with
    | true =>
      cases t' with
      | true =>
        go_wp2_with fail
        refine (HP2.out _).mono ?_
        rintro e w1 ⟨rfl, hw1⟩
        have HB1 : Hid (Below S w w1) := HKB.out.trans (hw1.mono hz)
        clear hw1
        go_wp2_with fail
        go_ret
        exact ⟨ret_int HV.out.symm, HB1.out⟩
      | false =>
        go_wp2_with fail
        go_ret
        exact ⟨ret_int HV.out.symm, HKB.out⟩
    | false =>
      cases t' with
      | true =>
        go_wp2_with fail
        go_ret
        exact ⟨ret_int HV.out.symm, HKB.out⟩
      | false =>
        go_wp2_with fail
        refine (HP1.out _).mono ?_
        rintro e w1 ⟨rfl, hw1⟩
        have HB1 : Hid (Below S w w1) := HKB.out.trans (hw1.mono hz)
        clear hw1
        go_wp2_with fail
        go_ret
        exact ⟨ret_int HV.out.symm, HB1.out⟩
end Go.Proofs.YtgoemhcngmpfbaaGreatDoor

/-
  Stage 7: limb's balance.
-/
namespace Go.Proofs.YtgoemhcngmpfbaaGreatDoor
open Go.RowKit Go.Sort

theorem three_ints (w : World) (s : Bool) (n : Nat) (t : Bool) (m : Nat) (T U V : TypeId) : IntAt (((w.alloc (boxI s n T)).alloc (boxI t m U)).alloc (boxIZ V)) w.heap.size s n ∧ IntAt (((w.alloc (boxI s n T)).alloc (boxI t m U)).alloc (boxIZ V)) (w.heap.size + 1) t m ∧ IntAt (((w.alloc (boxI s n T)).alloc (boxI t m U)).alloc (boxIZ V)) (w.heap.size + 1 + 1) false 0 ∧ Below w.heap.size w (((w.alloc (boxI s n T)).alloc (boxI t m U)).alloc (boxIZ V)) ∧ (((w.alloc (boxI s n T)).alloc (boxI t m U)).alloc (boxIZ V)).heap.size = w.heap.size + 1 + 1 + 1 := by
  obtain ⟨h1, h2, h3, h4⟩ := two_ints w s n t m T U
  refine ⟨h1.alloc (by omega) _, h2.alloc (by omega) _, ?_, h3.alloc (by omega) _, by simp⟩
  have := IntAt.zero ((w.alloc (boxI s n T)).alloc (boxI t m U)) V
  rwa [h4] at this
theorem IntAt.on {w w' : World} {b n : Nat} {s : Bool} (h : IntAt w b s n) (hb : Below w.heap.size w w') (hB : b < w.heap.size) : IntAt w' b s n := h.keep hb hB
set_option maxRecDepth 100000 in
set_option maxHeartbeats 8000000 in
/-- balance's last statement: what is left, with its sign, in the result's box. -/
theorem balance_run (s : Bool) (n : Nat) (t : Bool) (m : Nat) (w : World) (hn : Hid (Fits n)) (hm : Hid (Fits m)) :
    Calls Tryz.prog 126 #[intV s n, intV t m] w fun e w' => e = .returned (if n < m then intV (sgn t (m - n)) (m - n) else intV (sgn s (n - m)) (n - m)) ∧ Below w.heap.size w w' := by
  obtain ⟨S, hS⟩ : ∃ S, w.heap.size = S := ⟨_, rfl⟩
  obtain ⟨W, hW⟩ : ∃ W, ((w.alloc (boxI s n 25)).alloc (boxI t m 25)).alloc (boxIZ 25) = W := ⟨_, rfl⟩
  have T := three_ints w s n t m 25 25 25
  rw [hW, hS] at T
  obtain ⟨c, hc⟩ : ∃ c, cmpN n m = c := ⟨_, rfl⟩
  have HC := Lib.hid (fun W => compare_run n m c W hn hm hc)
  have HT := Lib.hid T
  obtain ⟨⟨a0, b0⟩, ⟨a1, b1⟩, ⟨a2, b2⟩, ⟨a3, b3⟩, ⟨a4, b4⟩, ⟨a5, b5⟩, ⟨a6, b6⟩, ⟨a7, b7⟩, ⟨a8, b8⟩⟩ := T.1.nine
  obtain ⟨⟨c0, d0⟩, ⟨c1, d1⟩, ⟨c2, d2⟩, ⟨c3, d3⟩, ⟨c4, d4⟩, ⟨c5, d5⟩, ⟨c6, d6⟩, ⟨c7, d7⟩, ⟨c8, d8⟩⟩ := T.2.1.nine
  clear T
  rw [hS]
  have hrow : ∃ x p y q, Hid ((if n < m then intV (sgn t (m - n)) (m - n) else intV (sgn s (n - m)) (n - m)) = intV (sgn x (p - q)) (p - q)) ∧ Hid (q ≤ p ∧ Fits p) ∧ ((c < 0 ∧ x = t ∧ p = m ∧ y = s ∧ q = n) ∨ (¬ c < 0 ∧ x = s ∧ p = n ∧ y = t ∧ q = m)) := by
    by_cases h : n < m
    · exact ⟨t, m, s, n, if_pos h, ⟨Nat.le_of_lt h, hm.out⟩, .inl ⟨by rw [← hc, cmpN_lt h]; decide, rfl, rfl, rfl, rfl⟩⟩
    · refine ⟨s, n, t, m, if_neg h, ⟨by omega, hn.out⟩, .inr ⟨?_, rfl, rfl, rfl, rfl⟩⟩
      rw [← hc]
      unfold cmpN
      rw [if_neg h]
      split <;> decide
  obtain ⟨x, p, y, q, HR, HPQ, hcase⟩ := hrow
  rw [HR.out]
  have HS1 := Lib.hid (fun W => subtract_run p q W HPQ.out.1)
  have hfit : Fits (p - q) := Nat.lt_of_le_of_lt (Nat.sub_le _ _) HPQ.out.2
  have HS2 := Lib.hid (fun W => signed_run x (p - q) W hfit)
  obtain ⟨r, hr⟩ : ∃ r, p - q = r := ⟨_, rfl⟩
  rw [hr] at HS1 HS2 ⊢
  obtain ⟨z, hz⟩ : ∃ z, sgn x r = z := ⟨_, rfl⟩
  rw [hz] at HS2 ⊢
  clear hr hz hfit HR HPQ hc hn hm
  unfold wordsV at HC HS1
  unfold wordsV intV at HS2
  unfold intV
  go_enter Tryz.func126, Tryz.ntmps126
  go_wp2_with fail
  refine (HC.out _).mono ?_
  rintro e w1 ⟨rfl, hw1⟩
  have k4 : ∀ x, x < S + 1 + 1 + 1 → x < W.heap.size := fun x hx => Nat.lt_of_lt_of_eq hx HT.out.2.2.2.2.symm
  have I1 := Lib.hid (HT.out.1.keep hw1 (k4 _ (by omega)))
  have I2 := Lib.hid (HT.out.2.1.keep hw1 (k4 _ (by omega)))
  have I3 := Lib.hid (HT.out.2.2.1.keep hw1 (k4 _ (by omega)))
  have B1 : Hid (Below S w w1) := HT.out.2.2.2.1.trans (hw1.mono (Nat.le_of_lt (k4 _ (by omega))))
  have z1 : S + 1 + 1 + 1 ≤ w1.heap.size := by have := hw1.size; rw [HT.out.2.2.2.2] at this; exact this
  clear hw1 k4 HT hW HC a0 a1 a2 a3 a4 a5 a6 a7 a8 b0 b1 b2 b3 b4 b5 b6 b7 b8 c0 c1 c2 c3 c4 c5 c6 c7 c8 d0 d1 d2 d3 d4 d5 d6 d7 d8
  obtain ⟨⟨a0, b0⟩, ⟨a1, b1⟩, ⟨a2, b2⟩, ⟨a3, b3⟩, ⟨a4, b4⟩, ⟨a5, b5⟩, ⟨a6, b6⟩, ⟨a7, b7⟩, ⟨a8, b8⟩⟩ := I1.out.nine
  obtain ⟨⟨c0, d0⟩, ⟨c1, d1⟩, ⟨c2, d2⟩, ⟨c3, d3⟩, ⟨c4, d4⟩, ⟨c5, d5⟩, ⟨c6, d6⟩, ⟨c7, d7⟩, ⟨c8, d8⟩⟩ := I2.out.nine
  obtain ⟨hneg, rfl, rfl, rfl, rfl⟩ | ⟨hneg, rfl, rfl, rfl, rfl⟩ := hcase
  · have hnz : decide (c < 0) = true := decide_eq_true hneg
    go_upto_region 3 with fail
    show Code.wp _ _ _ _ (st9 (st9 w1 S x p) (S + 1) y q)
    have J1 := Lib.hid ((st9_at (t := x) (m := p) I1.out).but (st9_but _ (S + 1) y q) (by omega))
    have J2 := Lib.hid (st9_at (t := y) (m := q) (I2.out.but (st9_but _ S x p) (by omega)))
    have J3 := Lib.hid ((I3.out.but (st9_but _ S x p) (by omega)).but (st9_but _ (S + 1) y q) (by omega))
    have BX := Lib.hid ((st9_but _ (S + 1) y q).2.1 S w (by omega) ((st9_but _ S x p).2.1 S w (by omega) B1.out))
    have zx : S + 1 + 1 + 1 ≤ (st9 (st9 w1 S x p) (S + 1) y q).heap.size := by rw [(st9_but _ (S + 1) y q).2.2, (st9_but _ S x p).2.2]; exact z1
    clear I1 I2 I3 B1 z1 a0 a1 a2 a3 a4 a5 a6 a7 a8 b0 b1 b2 b3 b4 b5 b6 b7 b8 c0 c1 c2 c3 c4 c5 c6 c7 c8 d0 d1 d2 d3 d4 d5 d6 d7 d8
    generalize st9 (st9 w1 S x p) (S + 1) y q = wx at *
    obtain ⟨⟨a0, b0⟩, ⟨a1, b1⟩, ⟨a2, b2⟩, ⟨a3, b3⟩, ⟨a4, b4⟩, ⟨a5, b5⟩, ⟨a6, b6⟩, ⟨a7, b7⟩, ⟨a8, b8⟩⟩ := J1.out.nine
    obtain ⟨⟨c0, d0⟩, ⟨c1, d1⟩, ⟨c2, d2⟩, ⟨c3, d3⟩, ⟨c4, d4⟩, ⟨c5, d5⟩, ⟨c6, d6⟩, ⟨c7, d7⟩, ⟨c8, d8⟩⟩ := J2.out.nine
    have HK : Hid (∀ w2, Below wx.drew.heap.size wx.drew w2 → IntAt w2 S x p ∧ IntAt w2 (S + 1) y q ∧ IntAt w2 (S + 1 + 1) false 0 ∧ Below S w w2 ∧ S + 1 + 1 + 1 ≤ w2.heap.size) := fun w2 hw2 =>
      ⟨IntAt.keep (w := wx.drew) J1.out.drew hw2 (by show S < wx.heap.size; omega), IntAt.keep (w := wx.drew) J2.out.drew hw2 (by show S + 1 < wx.heap.size; omega), IntAt.keep (w := wx.drew) J3.out.drew hw2 (by show S + 1 + 1 < wx.heap.size; omega), BX.out.drew.trans (hw2.mono (by show S ≤ wx.heap.size; omega)), by have := hw2.size; have h2 : wx.drew.heap.size = wx.heap.size := rfl; omega⟩
    go_region_with (first | (go_at_call 155; refine (HS1.out _).mono ?_; rintro e w2 ⟨rfl, hw2⟩; obtain ⟨L1, L2, L3, LB, lz⟩ := HK.out _ hw2; have HL1 := Lib.hid L1; have HL3 := Lib.hid L3; have HLB := Lib.hid LB; obtain ⟨⟨e0, f0⟩, ⟨e1, f1⟩, ⟨e2, f2⟩, ⟨e3, f3⟩, ⟨e4, f4⟩, ⟨e5, f5⟩, ⟨e6, f6⟩, ⟨e7, f7⟩, ⟨e8, f8⟩⟩ := L1.nine; clear L1 L2 L3 LB hw2) | (go_at_call 53; refine (HS2.out _).mono ?_; rintro e w3 ⟨rfl, hw3⟩; have M3 := Lib.hid (HL3.out.keep hw3 (by omega)); have MB := Lib.hid (HLB.out.trans (hw3.mono (by omega))); obtain ⟨⟨g0, h0⟩, ⟨g1, h1⟩, ⟨g2, h2⟩, ⟨g3, h3⟩, ⟨g4, h4⟩, ⟨g5, h5⟩, ⟨g6, h6⟩, ⟨g7, h7⟩, ⟨g8, h8⟩⟩ := M3.out.nine; clear hw3))
    all_goals go_wp2_with fail
    all_goals refine bodyPost_ret (v := intV z r) (by rw [results_cell1 rfl]; go_simp; try rfl) rfl ⟨rfl, ?_⟩
    all_goals exact (st9_but w3 (S + 1 + 1) z r).2.1 S w (by omega) MB.out
  · have hnz : decide (c < 0) = false := decide_eq_false (by omega)
    go_upto_region 3 with fail
    have J1 := I1
    have J2 := I2
    have J3 := I3
    have BX := B1
    have zx := z1
    clear I1 I2 I3 B1 z1
    generalize w1 = wx at *
    have HK : Hid (∀ w2, Below wx.drew.heap.size wx.drew w2 → IntAt w2 S x p ∧ IntAt w2 (S + 1) y q ∧ IntAt w2 (S + 1 + 1) false 0 ∧ Below S w w2 ∧ S + 1 + 1 + 1 ≤ w2.heap.size) := fun w2 hw2 =>
      ⟨IntAt.keep (w := wx.drew) J1.out.drew hw2 (by show S < wx.heap.size; omega), IntAt.keep (w := wx.drew) J2.out.drew hw2 (by show S + 1 < wx.heap.size; omega), IntAt.keep (w := wx.drew) J3.out.drew hw2 (by show S + 1 + 1 < wx.heap.size; omega), BX.out.drew.trans (hw2.mono (by show S ≤ wx.heap.size; omega)), by have := hw2.size; have h2 : wx.drew.heap.size = wx.heap.size := rfl; omega⟩
    go_region_with (first | (go_at_call 155; refine (HS1.out _).mono ?_; rintro e w2 ⟨rfl, hw2⟩; obtain ⟨L1, L2, L3, LB, lz⟩ := HK.out _ hw2; have HL1 := Lib.hid L1; have HL3 := Lib.hid L3; have HLB := Lib.hid LB; obtain ⟨⟨e0, f0⟩, ⟨e1, f1⟩, ⟨e2, f2⟩, ⟨e3, f3⟩, ⟨e4, f4⟩, ⟨e5, f5⟩, ⟨e6, f6⟩, ⟨e7, f7⟩, ⟨e8, f8⟩⟩ := L1.nine; clear L1 L2 L3 LB hw2) | (go_at_call 53; refine (HS2.out _).mono ?_; rintro e w3 ⟨rfl, hw3⟩; have M3 := Lib.hid (HL3.out.keep hw3 (by omega)); have MB := Lib.hid (HLB.out.trans (hw3.mono (by omega))); obtain ⟨⟨g0, h0⟩, ⟨g1, h1⟩, ⟨g2, h2⟩, ⟨g3, h3⟩, ⟨g4, h4⟩, ⟨g5, h5⟩, ⟨g6, h6⟩, ⟨g7, h7⟩, ⟨g8, h8⟩⟩ := M3.out.nine; clear hw3))
    all_goals go_wp2_with fail
    all_goals refine bodyPost_ret (v := intV z r) (by rw [results_cell1 rfl]; go_simp; try rfl) rfl ⟨rfl, ?_⟩
    all_goals exact (st9_but w3 (S + 1 + 1) z r).2.1 S w (by omega) MB.out
end Go.Proofs.YtgoemhcngmpfbaaGreatDoor

/-
  Stage 7: limb's Add and Sub.
-/
namespace Go.Proofs.YtgoemhcngmpfbaaGreatDoor
open Go.RowKit Go.Sort

/-- A number, or ErrOver where it does not fit. -/
def resV (s : Bool) (n : Nat) : Value := if n < 18446744073709551616 ^ 8 then .tuple #[intV (sgn s n) n, .nilIface] else .tuple #[intV false 0, errno 9]
theorem resV_fits {s : Bool} {n : Nat} (h : Fits n) : resV s n = .tuple #[intV (sgn s n) n, .nilIface] := if_pos h
theorem resV_over {s : Bool} {n : Nat} (h : ¬ Fits n) : resV s n = .tuple #[intV false 0, errno 9] := if_neg h
/-- The sum: its sign, and its size. -/
def addS (s : Bool) (n : Nat) (t : Bool) (m : Nat) : Bool := if s = t then s else if n < m then t else s
def addN (s : Bool) (n : Nat) (t : Bool) (m : Nat) : Nat := if s = t then n + m else if n < m then m - n else n - m
set_option maxRecDepth 100000 in
set_option maxHeartbeats 8000000 in
theorem Add_run (s : Bool) (n : Nat) (t : Bool) (m : Nat) (w : World) (hn : Hid (Fits n)) (hm : Hid (Fits m)) :
    Calls Tryz.prog 92 #[intV s n, intV t m] w fun e w' => e = .returned (resV (addS s n t m) (addN s n t m)) ∧ Below w.heap.size w w' := by
  obtain ⟨S, hS⟩ : ∃ S, w.heap.size = S := ⟨_, rfl⟩
  obtain ⟨W, hW⟩ : ∃ W, ((w.alloc (boxI s n 25)).alloc (boxI t m 25)).alloc (boxIZ 25) = W := ⟨_, rfl⟩
  have T := three_ints w s n t m 25 25 25
  rw [hW, hS] at T
  have HT := Lib.hid T
  obtain ⟨⟨a0, b0⟩, ⟨a1, b1⟩, ⟨a2, b2⟩, ⟨a3, b3⟩, ⟨a4, b4⟩, ⟨a5, b5⟩, ⟨a6, b6⟩, ⟨a7, b7⟩, ⟨a8, b8⟩⟩ := T.1.nine
  obtain ⟨⟨c0, d0⟩, ⟨c1, d1⟩, ⟨c2, d2⟩, ⟨c3, d3⟩, ⟨c4, d4⟩, ⟨c5, d5⟩, ⟨c6, d6⟩, ⟨c7, d7⟩, ⟨c8, d8⟩⟩ := T.2.1.nine
  have HZ : Hid (IntAt W (S + 1 + 1) false 0) := T.2.2.1
  clear T
  rw [hS]
  have k4 : ∀ x, x < S + 1 + 1 + 1 → x < W.heap.size := fun x hx => Nat.lt_of_lt_of_eq hx HT.out.2.2.2.2.symm
  by_cases hst : s = t
  · subst hst
    have HR : Hid (resV (addS s n s m) (addN s n s m) = resV s (n + m)) := by show _ = _; rw [addS, addN, if_pos rfl, if_pos rfl]
    have HC := Lib.hid (fun W => add_run n m W hn hm)
    rw [HR.out]
    obtain ⟨C, hC⟩ : ∃ C, (n + m) / 18446744073709551616 ^ 8 = C := ⟨_, rfl⟩
    rw [hC] at HC
    have hbool : (s != s) = false := by cases s <;> rfl
    by_cases hf : Fits (n + m)
    · have hC0 : C = 0 := by rw [← hC]; exact Nat.div_eq_of_lt hf
      rw [resV_fits hf]
      rw [hC0] at HC
      have HS := Lib.hid (fun W => signed_run s (n + m) W hf)
      obtain ⟨z, hz⟩ : ∃ z, sgn s (n + m) = z := ⟨_, rfl⟩
      rw [hz] at HS ⊢
      obtain ⟨r, hr⟩ : ∃ r, n + m = r := ⟨_, rfl⟩
      rw [hr] at HS HC ⊢
      clear hr hz hf hC hC0 HR
      unfold wordsV at HC
      unfold wordsV intV at HS
      unfold intV
      go_enter Tryz.func92, Tryz.ntmps92
      go_wp2_with fail
      refine (HC.out _).mono ?_
      rintro e w1 ⟨rfl, hw1⟩
      have I1 := Lib.hid (HT.out.1.keep hw1 (k4 _ (by omega)))
      have I3 := Lib.hid (HZ.out.keep hw1 (k4 _ (by omega)))
      have B1 : Hid (Below S w w1) := HT.out.2.2.2.1.trans (hw1.mono (Nat.le_of_lt (k4 _ (by omega))))
      have z1 : S + 1 + 1 + 1 ≤ w1.heap.size := by have := hw1.size; rw [HT.out.2.2.2.2] at this; exact this
      clear hw1 k4 HT HZ hW HC a0 a1 a2 a3 a4 a5 a6 a7 a8 b0 b1 b2 b3 b4 b5 b6 b7 b8 c0 c1 c2 c3 c4 c5 c6 c7 c8 d0 d1 d2 d3 d4 d5 d6 d7 d8
      have hsg := (I1.out.alloc (by omega) (boxO r 119)).sign
      have I4 := Lib.hid (I3.out.alloc (by omega) (boxO r 119))
      have B2 : Hid (Below S w (w1.alloc (boxO r 119))) := B1.out.alloc (by omega) _
      have z2 : (w1.alloc (boxO r 119)).heap.size = w1.heap.size + 1 := by simp
      go_wp2_with fail
      refine (HS.out _).mono ?_
      rintro e w2 ⟨rfl, hw2⟩
      have M3 := Lib.hid (I4.out.keep hw2 (Nat.lt_of_lt_of_eq (show S + 1 + 1 < w1.heap.size + 1 by omega) z2.symm))
      have MB : Hid (Below S w w2) := B2.out.trans (hw2.mono (Nat.le_trans (show S ≤ w1.heap.size + 1 by omega) (Nat.le_of_eq z2.symm)))
      obtain ⟨⟨g0, h0⟩, ⟨g1, h1⟩, ⟨g2, h2⟩, ⟨g3, h3⟩, ⟨g4, h4⟩, ⟨g5, h5⟩, ⟨g6, h6⟩, ⟨g7, h7⟩, ⟨g8, h8⟩⟩ := M3.out.nine
      clear hw2 I4 B2 z2 hsg I1 I3 B1
      go_wp2_with fail
      refine bodyPost_ret (v := .tuple #[intV z r, .nilIface]) (by rw [results_cell_tmp rfl]; go_simp; try rfl) rfl ⟨rfl, ?_⟩
      exact (st9_but w2 (S + 1 + 1) z r).2.1 S w (by omega) MB.out
    · have hC0 : 0 < C := by rw [← hC]; exact Nat.div_pos (Nat.le_of_not_lt hf) (Nat.pow_pos (by decide))
      rw [resV_over hf]
      have hCz : ((C : Int) != 0) = true := by simp; omega
      obtain ⟨r, hr⟩ : ∃ r, n + m = r := ⟨_, rfl⟩
      rw [hr] at HC
      clear hr hf hC HR
      unfold wordsV at HC
      unfold intV
      go_enter Tryz.func92, Tryz.ntmps92
      go_wp2_with fail
      refine (HC.out _).mono ?_
      rintro e w1 ⟨rfl, hw1⟩
      have I3 := Lib.hid (HZ.out.keep hw1 (k4 _ (by omega)))
      have B1 : Hid (Below S w w1) := HT.out.2.2.2.1.trans (hw1.mono (Nat.le_of_lt (k4 _ (by omega))))
      have z1 : S + 1 + 1 + 1 ≤ w1.heap.size := by have := hw1.size; rw [HT.out.2.2.2.2] at this; exact this
      clear hw1 k4 HT HZ hW HC a0 a1 a2 a3 a4 a5 a6 a7 a8 b0 b1 b2 b3 b4 b5 b6 b7 b8 c0 c1 c2 c3 c4 c5 c6 c7 c8 d0 d1 d2 d3 d4 d5 d6 d7 d8
      have I4 := Lib.hid (I3.out.alloc (by omega) (boxO r 119))
      have B2 : Hid (Below S w (w1.alloc (boxO r 119))) := B1.out.alloc (by omega) _
      obtain ⟨⟨g0, h0⟩, ⟨g1, h1⟩, ⟨g2, h2⟩, ⟨g3, h3⟩, ⟨g4, h4⟩, ⟨g5, h5⟩, ⟨g6, h6⟩, ⟨g7, h7⟩, ⟨g8, h8⟩⟩ := I4.out.nine
      clear I3 B1
      go_upto_region 4 with fail
      have hx : w1.alloc (.cells #[.int .u64 (wd r 0 : Int), .int .u64 (wd r 1 : Int), .int .u64 (wd r 2 : Int), .int .u64 (wd r 3 : Int), .int .u64 (wd r 4 : Int), .int .u64 (wd r 5 : Int), .int .u64 (wd r 6 : Int), .int .u64 (wd r 7 : Int)] 119) = w1.alloc (boxO r 119) := rfl
      rw [hx]
      clear hx
      generalize w1.alloc (boxO r 119) = w2 at *
      go_wp2_with fail
      refine bodyPost_ret (v := .tuple #[intV false 0, errno 9]) (by rw [results_cell_tmp rfl]; go_simp; exact ⟨by simp only [intV, wd_zero, Int.natCast_zero], rfl⟩) rfl ⟨rfl, ?_⟩
      have := (st9_but w2 (S + 1 + 1) false 0).2.1 S w (by omega) B2.out
      unfold st9 at this
      simpa only [wd_zero, Int.natCast_zero] using this
  · have hrow : ∃ z r, (∀ W, Calls Tryz.prog 126 #[intV s n, intV t m] W fun e w' => e = .returned (intV z r) ∧ Below W.heap.size W w') ∧ resV (addS s n t m) (addN s n t m) = .tuple #[intV z r, .nilIface] := by
      unfold addS addN
      rw [if_neg hst, if_neg hst]
      by_cases h : n < m
      · refine ⟨sgn t (m - n), m - n, fun W => (balance_run s n t m W hn hm).mono fun e w' ⟨he, hw⟩ => ⟨by rw [he, if_pos h], hw⟩, ?_⟩
        rw [if_pos h, if_pos h]
        exact resV_fits (Nat.lt_of_le_of_lt (Nat.sub_le _ _) hm.out)
      · refine ⟨sgn s (n - m), n - m, fun W => (balance_run s n t m W hn hm).mono fun e w' ⟨he, hw⟩ => ⟨by rw [he, if_neg h], hw⟩, ?_⟩
        rw [if_neg h, if_neg h]
        exact resV_fits (Nat.lt_of_le_of_lt (Nat.sub_le _ _) hn.out)
    obtain ⟨z, r, hb, hres⟩ := hrow
    rw [hres]
    have HC := Lib.hid hb
    have hbool : (s != t) = true := by cases s <;> cases t <;> first | rfl | exact absurd rfl hst
    have hbool2 : (s == t) = false := by cases s <;> cases t <;> first | rfl | exact absurd rfl hst
    clear hb hres hn hm
    unfold intV at HC ⊢
    go_enter Tryz.func92, Tryz.ntmps92
    go_wp2_with fail
    refine (HC.out _).mono ?_
    rintro e w1 ⟨rfl, hw1⟩
    have M3 := Lib.hid (HZ.out.keep hw1 (k4 _ (by omega)))
    have B1 : Hid (Below S w w1) := HT.out.2.2.2.1.trans (hw1.mono (Nat.le_of_lt (k4 _ (by omega))))
    obtain ⟨⟨g0, h0⟩, ⟨g1, h1⟩, ⟨g2, h2⟩, ⟨g3, h3⟩, ⟨g4, h4⟩, ⟨g5, h5⟩, ⟨g6, h6⟩, ⟨g7, h7⟩, ⟨g8, h8⟩⟩ := M3.out.nine
    clear hw1 k4 HT HZ hW HC a0 a1 a2 a3 a4 a5 a6 a7 a8 b0 b1 b2 b3 b4 b5 b6 b7 b8 c0 c1 c2 c3 c4 c5 c6 c7 c8 d0 d1 d2 d3 d4 d5 d6 d7 d8
    go_wp2_with fail
    refine bodyPost_ret (v := .tuple #[intV z r, .nilIface]) (by rw [results_cell_tmp rfl]; go_simp; try rfl) rfl ⟨rfl, ?_⟩
    exact (st9_but w1 (S + 1 + 1) z r).2.1 S w (by omega) B1.out
end Go.Proofs.YtgoemhcngmpfbaaGreatDoor
