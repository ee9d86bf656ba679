/-
  Stage 7: limb's Add and Sub.
-/
import Derived.Test.YtbcnpajdmlbieaaDoorLmN
namespace Go.Proofs.YtbcnpajdmlbieaaDoor
open Go.RowKit Go.Sort

/-- A number, or ErrOver where it does not fit. -/
def resV (s : Bool) (n : Nat) : Value := if n < 18446744073709551616 ^ 8 then .tuple #[intV (sgn s n) n, .nilIface] else .tuple #[intV false 0, errno 9]
theorem resV_fits {s : Bool} {n : Nat} (h : Fits n) : resV s n = .tuple #[intV (sgn s n) n, .nilIface] := if_pos h
theorem resV_over {s : Bool} {n : Nat} (h : ¬ Fits n) : resV s n = .tuple #[intV false 0, errno 9] := if_neg h
/-- The sum: its sign, and its size. -/
def addS (s : Bool) (n : Nat) (t : Bool) (m : Nat) : Bool := if s = t then s else if n < m then t else s
def addN (s : Bool) (n : Nat) (t : Bool) (m : Nat) : Nat := if s = t then n + m else if n < m then m - n else n - m
set_option maxRecDepth 100000 in
set_option maxHeartbeats 8000000 in
theorem Add_run (s : Bool) (n : Nat) (t : Bool) (m : Nat) (w : World) (hn : Hid (Fits n)) (hm : Hid (Fits m)) :
    Calls Tryd.prog 21 #[intV s n, intV t m] w fun e w' => e = .returned (resV (addS s n t m) (addN s n t m)) ∧ Below w.heap.size w w' := by
  obtain ⟨S, hS⟩ : ∃ S, w.heap.size = S := ⟨_, rfl⟩
  obtain ⟨W, hW⟩ : ∃ W, ((w.alloc (boxI s n 25)).alloc (boxI t m 25)).alloc (boxIZ 25) = W := ⟨_, rfl⟩
  have T := three_ints w s n t m 25 25 25
  rw [hW, hS] at T
  have HT := Lib.hid T
  obtain ⟨⟨a0, b0⟩, ⟨a1, b1⟩, ⟨a2, b2⟩, ⟨a3, b3⟩, ⟨a4, b4⟩, ⟨a5, b5⟩, ⟨a6, b6⟩, ⟨a7, b7⟩, ⟨a8, b8⟩⟩ := T.1.nine
  obtain ⟨⟨c0, d0⟩, ⟨c1, d1⟩, ⟨c2, d2⟩, ⟨c3, d3⟩, ⟨c4, d4⟩, ⟨c5, d5⟩, ⟨c6, d6⟩, ⟨c7, d7⟩, ⟨c8, d8⟩⟩ := T.2.1.nine
  have HZ : Hid (IntAt W (S + 1 + 1) false 0) := T.2.2.1
  clear T
  rw [hS]
  have k4 : ∀ x, x < S + 1 + 1 + 1 → x < W.heap.size := fun x hx => Nat.lt_of_lt_of_eq hx HT.out.2.2.2.2.symm
  by_cases hst : s = t
  · subst hst
    have HR : Hid (resV (addS s n s m) (addN s n s m) = resV s (n + m)) := by show _ = _; rw [addS, addN, if_pos rfl, if_pos rfl]
    have HC := Lib.hid (fun W => add_run n m W hn hm)
    rw [HR.out]
    obtain ⟨C, hC⟩ : ∃ C, (n + m) / 18446744073709551616 ^ 8 = C := ⟨_, rfl⟩
    rw [hC] at HC
    have hbool : (s != s) = false := by cases s <;> rfl
    by_cases hf : Fits (n + m)
    · have hC0 : C = 0 := by rw [← hC]; exact Nat.div_eq_of_lt hf
      rw [resV_fits hf]
      rw [hC0] at HC
      have HS := Lib.hid (fun W => signed_run s (n + m) W hf)
      obtain ⟨z, hz⟩ : ∃ z, sgn s (n + m) = z := ⟨_, rfl⟩
      rw [hz] at HS ⊢
      obtain ⟨r, hr⟩ : ∃ r, n + m = r := ⟨_, rfl⟩
      rw [hr] at HS HC ⊢
      clear hr hz hf hC hC0 HR
      unfold wordsV at HC
      unfold wordsV intV at HS
      unfold intV
      go_enter Tryd.func21, Tryd.ntmps21
      go_wp2_with fail
      refine (HC.out _).mono ?_
      rintro e w1 ⟨rfl, hw1⟩
      have I1 := Lib.hid (HT.out.1.keep hw1 (k4 _ (by omega)))
      have I3 := Lib.hid (HZ.out.keep hw1 (k4 _ (by omega)))
      have B1 : Hid (Below S w w1) := HT.out.2.2.2.1.trans (hw1.mono (Nat.le_of_lt (k4 _ (by omega))))
      have z1 : S + 1 + 1 + 1 ≤ w1.heap.size := by have := hw1.size; rw [HT.out.2.2.2.2] at this; exact this
      clear hw1 k4 HT HZ hW HC a0 a1 a2 a3 a4 a5 a6 a7 a8 b0 b1 b2 b3 b4 b5 b6 b7 b8 c0 c1 c2 c3 c4 c5 c6 c7 c8 d0 d1 d2 d3 d4 d5 d6 d7 d8
      have hsg := (I1.out.alloc (by omega) (boxO r 61)).sign
      have I4 := Lib.hid (I3.out.alloc (by omega) (boxO r 61))
      have B2 : Hid (Below S w (w1.alloc (boxO r 61))) := B1.out.alloc (by omega) _
      have z2 : (w1.alloc (boxO r 61)).heap.size = w1.heap.size + 1 := by simp
      go_wp2_with fail
      refine (HS.out _).mono ?_
      rintro e w2 ⟨rfl, hw2⟩
      have M3 := Lib.hid (I4.out.keep hw2 (Nat.lt_of_lt_of_eq (show S + 1 + 1 < w1.heap.size + 1 by omega) z2.symm))
      have MB : Hid (Below S w w2) := B2.out.trans (hw2.mono (Nat.le_trans (show S ≤ w1.heap.size + 1 by omega) (Nat.le_of_eq z2.symm)))
      obtain ⟨⟨g0, h0⟩, ⟨g1, h1⟩, ⟨g2, h2⟩, ⟨g3, h3⟩, ⟨g4, h4⟩, ⟨g5, h5⟩, ⟨g6, h6⟩, ⟨g7, h7⟩, ⟨g8, h8⟩⟩ := M3.out.nine
      clear hw2 I4 B2 z2 hsg I1 I3 B1
      go_wp2_with fail
      refine bodyPost_ret (v := .tuple #[intV z r, .nilIface]) (by rw [results_cell_tmp rfl]; go_simp; try rfl) rfl ⟨rfl, ?_⟩
      exact (st9_but w2 (S + 1 + 1) z r).2.1 S w (by omega) MB.out
    · have hC0 : 0 < C := by rw [← hC]; exact Nat.div_pos (Nat.le_of_not_lt hf) (Nat.pow_pos (by decide))
      rw [resV_over hf]
      have hCz : ((C : Int) != 0) = true := by simp; omega
      obtain ⟨r, hr⟩ : ∃ r, n + m = r := ⟨_, rfl⟩
      rw [hr] at HC
      clear hr hf hC HR
      unfold wordsV at HC
      unfold intV
      go_enter Tryd.func21, Tryd.ntmps21
      go_wp2_with fail
      refine (HC.out _).mono ?_
      rintro e w1 ⟨rfl, hw1⟩
      have I3 := Lib.hid (HZ.out.keep hw1 (k4 _ (by omega)))
      have B1 : Hid (Below S w w1) := HT.out.2.2.2.1.trans (hw1.mono (Nat.le_of_lt (k4 _ (by omega))))
      have z1 : S + 1 + 1 + 1 ≤ w1.heap.size := by have := hw1.size; rw [HT.out.2.2.2.2] at this; exact this
      clear hw1 k4 HT HZ hW HC a0 a1 a2 a3 a4 a5 a6 a7 a8 b0 b1 b2 b3 b4 b5 b6 b7 b8 c0 c1 c2 c3 c4 c5 c6 c7 c8 d0 d1 d2 d3 d4 d5 d6 d7 d8
      have I4 := Lib.hid (I3.out.alloc (by omega) (boxO r 61))
      have B2 : Hid (Below S w (w1.alloc (boxO r 61))) := B1.out.alloc (by omega) _
      obtain ⟨⟨g0, h0⟩, ⟨g1, h1⟩, ⟨g2, h2⟩, ⟨g3, h3⟩, ⟨g4, h4⟩, ⟨g5, h5⟩, ⟨g6, h6⟩, ⟨g7, h7⟩, ⟨g8, h8⟩⟩ := I4.out.nine
      clear I3 B1
      go_upto_region 4 with fail
      have hx : w1.alloc (.cells #[.int .u64 (wd r 0 : Int), .int .u64 (wd r 1 : Int), .int .u64 (wd r 2 : Int), .int .u64 (wd r 3 : Int), .int .u64 (wd r 4 : Int), .int .u64 (wd r 5 : Int), .int .u64 (wd r 6 : Int), .int .u64 (wd r 7 : Int)] 61) = w1.alloc (boxO r 61) := rfl
      rw [hx]
      clear hx
      generalize w1.alloc (boxO r 61) = w2 at *
      go_wp2_with fail
      refine bodyPost_ret (v := .tuple #[intV false 0, errno 9]) (by rw [results_cell_tmp rfl]; go_simp; exact ⟨by simp only [intV, wd_zero, Int.natCast_zero], rfl⟩) rfl ⟨rfl, ?_⟩
      have := (st9_but w2 (S + 1 + 1) false 0).2.1 S w (by omega) B2.out
      unfold st9 at this
      simpa only [wd_zero, Int.natCast_zero] using this
  · have hrow : ∃ z r, (∀ W, Calls Tryd.prog 34 #[intV s n, intV t m] W fun e w' => e = .returned (intV z r) ∧ Below W.heap.size W w') ∧ resV (addS s n t m) (addN s n t m) = .tuple #[intV z r, .nilIface] := by
      unfold addS addN
      rw [if_neg hst, if_neg hst]
      by_cases h : n < m
      · refine ⟨sgn t (m - n), m - n, fun W => (balance_run s n t m W hn hm).mono fun e w' ⟨he, hw⟩ => ⟨by rw [he, if_pos h], hw⟩, ?_⟩
        rw [if_pos h, if_pos h]
        exact resV_fits (Nat.lt_of_le_of_lt (Nat.sub_le _ _) hm.out)
      · refine ⟨sgn s (n - m), n - m, fun W => (balance_run s n t m W hn hm).mono fun e w' ⟨he, hw⟩ => ⟨by rw [he, if_neg h], hw⟩, ?_⟩
        rw [if_neg h, if_neg h]
        exact resV_fits (Nat.lt_of_le_of_lt (Nat.sub_le _ _) hn.out)
    obtain ⟨z, r, hb, hres⟩ := hrow
    rw [hres]
    have HC := Lib.hid hb
    have hbool : (s != t) = true := by cases s <;> cases t <;> first | rfl | exact absurd rfl hst
    have hbool2 : (s == t) = false := by cases s <;> cases t <;> first | rfl | exact absurd rfl hst
    clear hb hres hn hm
    unfold intV at HC ⊢
    go_enter Tryd.func21, Tryd.ntmps21
    go_wp2_with fail
    refine (HC.out _).mono ?_
    rintro e w1 ⟨rfl, hw1⟩
    have M3 := Lib.hid (HZ.out.keep hw1 (k4 _ (by omega)))
    have B1 : Hid (Below S w w1) := HT.out.2.2.2.1.trans (hw1.mono (Nat.le_of_lt (k4 _ (by omega))))
    obtain ⟨⟨g0, h0⟩, ⟨g1, h1⟩, ⟨g2, h2⟩, ⟨g3, h3⟩, ⟨g4, h4⟩, ⟨g5, h5⟩, ⟨g6, h6⟩, ⟨g7, h7⟩, ⟨g8, h8⟩⟩ := M3.out.nine
    clear hw1 k4 HT HZ hW HC a0 a1 a2 a3 a4 a5 a6 a7 a8 b0 b1 b2 b3 b4 b5 b6 b7 b8 c0 c1 c2 c3 c4 c5 c6 c7 c8 d0 d1 d2 d3 d4 d5 d6 d7 d8
    go_wp2_with fail
    refine bodyPost_ret (v := .tuple #[intV z r, .nilIface]) (by rw [results_cell_tmp rfl]; go_simp; try rfl) rfl ⟨rfl, ?_⟩
    exact (st9_but w1 (S + 1 + 1) z r).2.1 S w (by omega) B1.out
end Go.Proofs.YtbcnpajdmlbieaaDoor
