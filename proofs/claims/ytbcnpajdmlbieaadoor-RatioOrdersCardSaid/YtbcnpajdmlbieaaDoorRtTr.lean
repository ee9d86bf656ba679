/-
  Stage 8: ratio's Trunc and Of.
-/
import Derived.Test.YtbcnpajdmlbieaaDoorRtAdd
namespace Go.Proofs.YtbcnpajdmlbieaaDoor
open Go.RowKit Go.Sort
set_option linter.unusedSimpArgs false

/-- Trunc's answer. -/
def trS (s : Bool) (n : Nat) (t : Bool) (d : Nat) : Bool := if vld s n t d then sgn s (n / d) else false
def trN (s : Bool) (n : Nat) (t : Bool) (d : Nat) : Nat := if vld s n t d then n / d else 0
theorem vld_spec {s : Bool} {n : Nat} {t : Bool} {d : Nat} (h : vld s n t d = true) : sgn s n = s ∧ t = false ∧ 0 < d ∧ Nat.gcd n d = 1 := by
  unfold vld at h
  simp only [Bool.and_eq_true, beq_iff_eq, decide_eq_true_eq, Bool.not_eq_true'] at h
  exact ⟨h.1.1.1, h.1.1.2, h.1.2, h.2⟩
theorem tr_boxes (w : World) (s : Bool) (n : Nat) (t : Bool) (d : Nat) (T U : TypeId) : RatAt ((w.alloc (boxR s n t d T)).alloc (boxIZ U)) w.heap.size s n t d ∧ IntAt ((w.alloc (boxR s n t d T)).alloc (boxIZ U)) (w.heap.size + 1) false 0 ∧ Below w.heap.size w ((w.alloc (boxR s n t d T)).alloc (boxIZ U)) ∧ ((w.alloc (boxR s n t d T)).alloc (boxIZ U)).heap.size = w.heap.size + 1 + 1 := by
  have z1 : (w.alloc (boxR s n t d T)).heap.size = w.heap.size + 1 := by simp
  have r2 := IntAt.zero (w.alloc (boxR s n t d T)) U
  rw [z1] at r2
  exact ⟨(RatAt.new w s n t d T).alloc (by simp) _, r2, (below_alloc w _).alloc (by simp) _, by simp⟩
set_option maxRecDepth 100000 in
set_option maxHeartbeats 4000000 in
theorem Trunc_run (s : Bool) (n : Nat) (t : Bool) (d : Nat) (w : World) (hn : Hid (Fits n)) (hd : Hid (Fits d)) :
    Calls Tryd.prog 14 #[ratV s n t d] w fun e w' => e = .returned (.tuple #[intV (trS s n t d) (trN s n t d), errV (chk s n t d)]) ∧ Below w.heap.size w w' := by
  obtain ⟨S, hS⟩ : ∃ S, w.heap.size = S := ⟨_, rfl⟩
  obtain ⟨W, hW⟩ : ∃ W, (w.alloc (boxR s n t d 27)).alloc (boxIZ 25) = W := ⟨_, rfl⟩
  have T := tr_boxes w s n t d 27 25
  rw [hW, hS] at T
  rw [hS]
  have HT := Lib.hid T
  have hWs := Lib.hid T.2.2.2
  clear T
  have HC := Lib.hid (fun W => Check_run s n t d W hn hd)
  have h0 : intV false 0 = .agg #[.bool false, .int .u64 0, .int .u64 0, .int .u64 0, .int .u64 0, .int .u64 0, .int .u64 0, .int .u64 0, .int .u64 0] := intV_small (by decide) false
  by_cases hv : vld s n t d = true
  · have e1 : trS s n t d = sgn s (n / d) := if_pos hv
    have e2 : trN s n t d = n / d := if_pos hv
    have e3 : chk s n t d = 0 := if_pos hv
    obtain ⟨_, rfl, hd0, _⟩ := vld_spec hv
    rw [e1, e2, e3, errV_zero]
    rw [e3, errV_zero] at HC
    have HQ := fun W => quotient_run s n false d W hn hd hd0
    rw [Bool.bne_false] at HQ
    have HQ := Lib.hid HQ
    generalize n / d = q at *
    generalize sgn s q = z at *
    clear e1 e2 e3 hv hd0 hn hd h0
    go_enter Tryd.func14, Tryd.ntmps14
    go_wp2_with (first | (refine wpList_box_rat rfl (.tmp 0) rfl rfl ?_) | (refine wpList_load_rat rfl (.tmp 1) rfl rfl HT.out.1 ?_))
    refine (HC.out _).mono ?_
    rintro e w1 ⟨rfl, hw1⟩
    have hz := hWs.out
    have H1 := Lib.hid (HT.out.1.keep hw1 (by omega))
    have H2 := Lib.hid (HT.out.2.1.keep hw1 (by omega))
    have HB := Lib.hid (HT.out.2.2.1.trans (hw1.mono (by omega)))
    have hs1 : S + 1 + 1 ≤ w1.heap.size := Nat.le_trans (Nat.le_of_eq hz.symm) hw1.size
    clear hw1 HT hW hWs hz HC
    go_wp2_with (first | (refine wpList_load_int rfl (.tmp 11) rfl rfl H1.out.num ?_) | (refine wpList_load_int rfl (.tmp 13) rfl rfl H1.out.den ?_))
    refine (HQ.out _).mono ?_
    rintro e w2 ⟨rfl, hw2⟩
    have H3 := Lib.hid (H2.out.keep hw2 (by omega))
    have HB2 := Lib.hid (HB.out.trans (hw2.mono (by omega)))
    clear hw2 H1 H2 HB HQ
    go_wp2_with (refine wpList_store_int rfl (.tmp 2) (.tmp 16) rfl (b := S + 1) (s := z) (n := q) rfl rfl H3.out ?_)
    refine bodyPost_ret (v := .tuple #[intV z q, .nilIface]) (results_int rfl rfl rfl (st9_at H3.out)) rfl ⟨rfl, ?_⟩
    exact (st9_but w2 (S + 1) z q).2.1 S w (by omega) HB2.out
  · have e1 : trS s n t d = false := if_neg hv
    have e2 : trN s n t d = 0 := if_neg hv
    have e3 : chk s n t d = 8 := if_neg hv
    rw [e1, e2, e3, errV_pos (show (8 : Nat) ≠ 0 by decide)]
    rw [e3, errV_pos (show (8 : Nat) ≠ 0 by decide)] at HC
    clear e1 e2 e3 hv hn hd
    go_enter Tryd.func14, Tryd.ntmps14
    go_wp2_with (first | (refine wpList_box_rat rfl (.tmp 0) rfl rfl ?_) | (refine wpList_load_rat rfl (.tmp 1) rfl rfl HT.out.1 ?_))
    refine (HC.out _).mono ?_
    rintro e w1 ⟨rfl, hw1⟩
    have hz := hWs.out
    have H2 := Lib.hid (HT.out.2.1.keep hw1 (by omega))
    have HB := Lib.hid (HT.out.2.2.1.trans (hw1.mono (by omega)))
    clear hw1 HT hW hWs hz HC
    go_wp2_with (refine wpList_store_int rfl (.tmp 2) (.tmp 9) rfl (b := S + 1) (s := false) (n := 0) rfl h0.symm H2.out ?_)
    refine bodyPost_ret (v := .tuple #[intV false 0, .iface 56 (.int .i64 (8 : Nat))]) (results_int rfl rfl rfl (st9_at H2.out)) rfl ⟨rfl, ?_⟩
    exact (st9_but w1 (S + 1) false 0).2.1 S w (by omega) HB.out
set_option maxRecDepth 100000 in
set_option maxHeartbeats 4000000 in
theorem ROf_run (z : Int) (w : World) (h1 : -9223372036854775808 ≤ z) (h2 : z < 9223372036854775808) :
    Calls Tryd.prog 16 #[.int .i64 z] w fun e w' => e = .returned (ratV (decide (z < 0)) z.natAbs false 1) ∧ Below w.heap.size w w' := by
  have HO1 := Lib.hid (fun W => Of_run z W h1 h2)
  have HO2 := Lib.hid (fun W => Of_run 1 W (by decide) (by decide))
  have hO : intV (decide ((1 : Int) < 0)) (1 : Int).natAbs = intV false 1 := rfl
  rw [hO] at HO2
  obtain ⟨S, hS⟩ : ∃ S, w.heap.size = S := ⟨_, rfl⟩
  have T1 := RatAt.zero w 27
  have T2 := below_alloc w (boxRZ 27)
  have T3 : (w.alloc (boxRZ 27)).heap.size = w.heap.size + 1 := by simp
  obtain ⟨W, hW⟩ : ∃ W, w.alloc (boxRZ 27) = W := ⟨_, rfl⟩
  rw [hW] at T1 T2 T3
  rw [hS] at T1 T2 T3 ⊢
  have HT1 := Lib.hid T1
  have HT2 := Lib.hid T2
  have hz := Lib.hid T3
  generalize decide (z < 0) = s at *
  generalize hn : z.natAbs = n at *
  clear T1 T2 T3 hO h1 h2 hn
  go_enter Tryd.func16, Tryd.ntmps16
  go_wp2_with fail
  refine (HO1.out _).mono ?_
  rintro e w1 ⟨rfl, hw1⟩
  have hzz := hz.out
  have H1 := Lib.hid (HT1.out.keep hw1 (by omega))
  have HB := Lib.hid (HT2.out.trans (hw1.mono (by omega)))
  have hs1 : S + 1 ≤ w1.heap.size := Nat.le_trans (Nat.le_of_eq hzz.symm) hw1.size
  clear hw1 HT1 HT2 hW hz hzz HO1
  go_wp2_with fail
  refine (HO2.out _).mono ?_
  rintro e w2 ⟨rfl, hw2⟩
  have H2 := Lib.hid (H1.out.keep hw2 (by omega))
  have HB2 := Lib.hid (HB.out.trans (hw2.mono (by omega)))
  clear hw2 H1 HB HO2
  go_wp2_with (first | (refine wpList_build_rat rfl (.tmp 4) (.tmp 5) rfl (s := s) (n := n) (t := false) (d := 1) rfl rfl ?_) | (refine wpList_store_rat rfl (.tmp 2) (.tmp 6) rfl (b := S) (s := s) (n := n) (t := false) (d := 1) rfl rfl H2.out ?_))
  refine bodyPost_ret (v := ratV s n false 1) (results_rat1 rfl rfl (st18_at H2.out)) rfl ⟨rfl, ?_⟩
  exact (st18_but w2 S s n false 1).2.1 S w (by omega) HB2.out
end Go.Proofs.YtbcnpajdmlbieaaDoor
