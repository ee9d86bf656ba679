/-
  Stage 7: limb's Cmp.
-/
import Derived.Test.YtbcnpajdmlbieaaDoorLmL
namespace Go.Proofs.YtbcnpajdmlbieaaDoor
open Go.RowKit Go.Sort

theorem IntAt.nine {w : World} {b n : Nat} {s : Bool} (h : IntAt w b s n) :
    (w.cell? ⟨b, 0, none⟩ = some (.bool s) ∧ w.frozen? ⟨b, 0, none⟩ = false) ∧ (w.cell? ⟨b, 1, none⟩ = some (.int .u64 (wd n 0 : Int)) ∧ w.frozen? ⟨b, 1, none⟩ = false) ∧ (w.cell? ⟨b, 2, none⟩ = some (.int .u64 (wd n 1 : Int)) ∧ w.frozen? ⟨b, 2, none⟩ = false) ∧
    (w.cell? ⟨b, 3, none⟩ = some (.int .u64 (wd n 2 : Int)) ∧ w.frozen? ⟨b, 3, none⟩ = false) ∧ (w.cell? ⟨b, 4, none⟩ = some (.int .u64 (wd n 3 : Int)) ∧ w.frozen? ⟨b, 4, none⟩ = false) ∧
    (w.cell? ⟨b, 5, none⟩ = some (.int .u64 (wd n 4 : Int)) ∧ w.frozen? ⟨b, 5, none⟩ = false) ∧ (w.cell? ⟨b, 6, none⟩ = some (.int .u64 (wd n 5 : Int)) ∧ w.frozen? ⟨b, 6, none⟩ = false) ∧
    (w.cell? ⟨b, 7, none⟩ = some (.int .u64 (wd n 6 : Int)) ∧ w.frozen? ⟨b, 7, none⟩ = false) ∧ (w.cell? ⟨b, 8, none⟩ = some (.int .u64 (wd n 7 : Int)) ∧ w.frozen? ⟨b, 8, none⟩ = false) :=
  ⟨⟨h.sign, h.free⟩, h.words.eightAt1⟩
theorem IntAt.drew {w : World} {b n : Nat} {s : Bool} (h : IntAt w b s n) : IntAt w.drew b s n := ⟨h.sign, h.free, h.words⟩
/-- Two numbers in their boxes. -/
theorem two_ints (w : World) (s : Bool) (n : Nat) (t : Bool) (m : Nat) (T U : TypeId) : IntAt ((w.alloc (boxI s n T)).alloc (boxI t m U)) w.heap.size s n ∧ IntAt ((w.alloc (boxI s n T)).alloc (boxI t m U)) (w.heap.size + 1) t m ∧ Below w.heap.size w ((w.alloc (boxI s n T)).alloc (boxI t m U)) ∧ ((w.alloc (boxI s n T)).alloc (boxI t m U)).heap.size = w.heap.size + 1 + 1 := by
  refine ⟨(IntAt.new w s n T).alloc (by simp) _, ?_, (below_alloc w _).alloc (by simp) _, by simp⟩
  have := IntAt.new (w.alloc (boxI s n T)) t m U
  simpa using this
/-- How two numbers stand. -/
def cmpS (s : Bool) (n : Nat) (t : Bool) (m : Nat) : Int := if sgn s n then (if sgn t m then cmpN m n else -1) else (if sgn t m then 1 else cmpN n m)
set_option maxRecDepth 100000 in
set_option maxHeartbeats 8000000 in
theorem Cmp_run (s : Bool) (n : Nat) (t : Bool) (m : Nat) (c : Int) (w : World) (hn : Hid (Fits n)) (hm : Hid (Fits m)) (hc : Hid (cmpS s n t m = c)) :
    Calls Tryd.prog 12 #[intV s n, intV t m] w fun e w' => e = .returned (.int .i64 c) ∧ Below w.heap.size w w' := by
  have HC1 := Lib.hid (fun W => Canon_run s n W hn)
  have HC2 := Lib.hid (fun W => Canon_run t m W hm)
  obtain ⟨S, hS⟩ : ∃ S, w.heap.size = S := ⟨_, rfl⟩
  obtain ⟨W, hW⟩ : ∃ W, (w.alloc (boxI s n 25)).alloc (boxI t m 25) = W := ⟨_, rfl⟩
  have T := two_ints w s n t m 25 25
  rw [hW, hS] at T
  obtain ⟨s', hs'⟩ : ∃ s', sgn s n = s' := ⟨_, rfl⟩
  obtain ⟨t', ht'⟩ : ∃ t', sgn t m = t' := ⟨_, rfl⟩
  rw [hs'] at HC1
  rw [ht'] at HC2
  have HV : Hid (c = if s' then (if t' then cmpN m n else -1) else (if t' then 1 else cmpN n m)) := by show _ = _; rw [← hc.out, cmpS, hs', ht']
  have HK1 : Hid (∀ w1, Below W.drew.heap.size W.drew w1 → IntAt w1 S s n ∧ IntAt w1 (S + 1) t m ∧ Below S w w1 ∧ S + 1 + 1 ≤ w1.heap.size) := fun w1 hw1 =>
    ⟨IntAt.keep (w := W.drew) T.1.drew hw1 (by show S < W.heap.size; omega), IntAt.keep (w := W.drew) T.2.1.drew hw1 (by show S + 1 < W.heap.size; omega), T.2.2.1.drew.trans (hw1.mono (by show S ≤ W.heap.size; omega)), by have := hw1.size; have h2 : W.drew.heap.size = W.heap.size := rfl; omega⟩
  obtain ⟨⟨a0, b0⟩, ⟨a1, b1⟩, ⟨a2, b2⟩, ⟨a3, b3⟩, ⟨a4, b4⟩, ⟨a5, b5⟩, ⟨a6, b6⟩, ⟨a7, b7⟩, ⟨a8, b8⟩⟩ := T.1.nine
  obtain ⟨⟨c0, d0⟩, ⟨c1, d1⟩, ⟨c2, d2⟩, ⟨c3, d3⟩, ⟨c4, d4⟩, ⟨c5, d5⟩, ⟨c6, d6⟩, ⟨c7, d7⟩, ⟨c8, d8⟩⟩ := T.2.1.nine
  clear T hs' ht'
  rw [hS]
  unfold intV at HC1 HC2 ⊢
  go_enter Tryd.func12, Tryd.ntmps12
  go_upto_region 1 with fail
  go_cut [] (fun wx => IntAt wx S s' n ∧ IntAt wx (S + 1) t' m ∧ Below S w wx)
  case first =>
    go_region_with (go_at_call 24; first | (refine (HC1.out _).mono ?_; rintro e w1 ⟨rfl, hw1⟩; obtain ⟨I1, I2, B1, z1⟩ := HK1.out _ hw1; have HI1 := Lib.hid I1; have HI2 := Lib.hid I2; have HB1 := Lib.hid B1; obtain ⟨⟨e0, f0⟩, ⟨e1, f1⟩, ⟨e2, f2⟩, ⟨e3, f3⟩, ⟨e4, f4⟩, ⟨e5, f5⟩, ⟨e6, f6⟩, ⟨e7, f7⟩, ⟨e8, f8⟩⟩ := I2.nine; clear I1 I2 B1 hw1) | (refine (HC2.out _).mono ?_; rintro e w2 ⟨rfl, hw2⟩; have J1 := Lib.hid (HI1.out.keep hw2 (by omega)); have J2 := Lib.hid (HI2.out.keep hw2 (by omega)); have BB := Lib.hid (HB1.out.trans (hw2.mono (by omega))); obtain ⟨⟨g0, h0⟩, ⟨g1, h1⟩, ⟨g2, h2⟩, ⟨g3, h3⟩, ⟨g4, h4⟩, ⟨g5, h5⟩, ⟨g6, h6⟩, ⟨g7, h7⟩, ⟨g8, h8⟩⟩ := J1.out.nine; obtain ⟨⟨i0, j0⟩, ⟨i1, j1⟩, ⟨i2, j2⟩, ⟨i3, j3⟩, ⟨i4, j4⟩, ⟨i5, j5⟩, ⟨i6, j6⟩, ⟨i7, j7⟩, ⟨i8, j8⟩⟩ := J2.out.nine; clear hw2))
    all_goals go_wp2_with fail
    all_goals go_meet
    all_goals exact ⟨(st9_at J1.out).but (st9_but _ (S + 1) t' m) (by omega), st9_at (J2.out.but (st9_but _ S s' n) (by omega)), (st9_but _ (S + 1) t' m).2.1 S w (by omega) ((st9_but _ S s' n).2.1 S w (by omega) BB.out)⟩
  case rest =>
    obtain ⟨K1, K2, KB⟩ := hcut
    have HKB := Lib.hid KB
    obtain ⟨⟨g0, h0⟩, ⟨g1, h1⟩, ⟨g2, h2⟩, ⟨g3, h3⟩, ⟨g4, h4⟩, ⟨g5, h5⟩, ⟨g6, h6⟩, ⟨g7, h7⟩, ⟨g8, h8⟩⟩ := K1.nine
    obtain ⟨⟨i0, j0⟩, ⟨i1, j1⟩, ⟨i2, j2⟩, ⟨i3, j3⟩, ⟨i4, j4⟩, ⟨i5, j5⟩, ⟨i6, j6⟩, ⟨i7, j7⟩, ⟨i8, j8⟩⟩ := K2.nine
    have HP1 : Hid (∀ W, Calls Tryd.prog 31 #[wordsV n, wordsV m] W fun e w' => e = .returned (.int .i64 (cmpN n m)) ∧ Below W.heap.size W w') := fun W => compare_run n m _ W hn hm rfl
    have HP2 : Hid (∀ W, Calls Tryd.prog 31 #[wordsV m, wordsV n] W fun e w' => e = .returned (.int .i64 (cmpN m n)) ∧ Below W.heap.size W w') := fun W => compare_run m n _ W hm hn rfl
    have hz : S ≤ wc.heap.size := by have := KB.size; omega
    unfold wordsV at HP1 HP2
    clear KB K1 K2 HK1 HC1 HC2 hW a0 a1 a2 a3 a4 a5 a6 a7 a8 b0 b1 b2 b3 b4 b5 b6 b7 b8 c0 c1 c2 c3 c4 c5 c6 c7 c8 d0 d1 d2 d3 d4 d5 d6 d7 d8
    cases s' with
    | true =>
      cases t' with
      | true =>
        go_wp2_with fail
        refine (HP2.out _).mono ?_
        rintro e w1 ⟨rfl, hw1⟩
        have HB1 : Hid (Below S w w1) := HKB.out.trans (hw1.mono hz)
        clear hw1
        go_wp2_with fail
        go_ret
        exact ⟨ret_int HV.out.symm, HB1.out⟩
      | false =>
        go_wp2_with fail
        go_ret
        exact ⟨ret_int HV.out.symm, HKB.out⟩
    | false =>
      cases t' with
      | true =>
        go_wp2_with fail
        go_ret
        exact ⟨ret_int HV.out.symm, HKB.out⟩
      | false =>
        go_wp2_with fail
        refine (HP1.out _).mono ?_
        rintro e w1 ⟨rfl, hw1⟩
        have HB1 : Hid (Below S w w1) := HKB.out.trans (hw1.mono hz)
        clear hw1
        go_wp2_with fail
        go_ret
        exact ⟨ret_int HV.out.symm, HB1.out⟩
end Go.Proofs.YtbcnpajdmlbieaaDoor
