/-
  Stage 8: ratio's Check.
-/
import Derived.Test.YtbcnpajdmlbieaaDoorRtB
import Derived.Test.YtbcnpajdmlbieaaDoorLmR
import Derived.Deep.RegionHeld3
namespace Go.Proofs.YtbcnpajdmlbieaaDoor
open Go.RowKit Go.Sort

/-- A valid ratio? -/
def vld (s : Bool) (n : Nat) (t : Bool) (d : Nat) : Bool := (sgn s n == s) && (!t) && decide (0 < d) && (Nat.gcd n d == 1)
/-- Check's error. -/
def chk (s : Bool) (n : Nat) (t : Bool) (d : Nat) : Nat := if vld s n t d then 0 else 8
set_option maxRecDepth 100000 in
set_option maxHeartbeats 8000000 in
theorem Check_run (s : Bool) (n : Nat) (t : Bool) (d : Nat) (w : World) (hn : Hid (Fits n)) (hd : Hid (Fits d)) :
    Calls Tryd.prog 7 #[ratV s n t d] w fun e w' => e = .returned (errV (chk s n t d)) ∧ Below w.heap.size w w' := by
  obtain ⟨S, hS⟩ : ∃ S, w.heap.size = S := ⟨_, rfl⟩
  obtain ⟨W, hW⟩ : ∃ W, w.alloc (boxR s n t d 27) = W := ⟨_, rfl⟩
  have T1 := RatAt.new w s n t d 27
  have T2 := below_alloc w (boxR s n t d 27)
  have T3 : (w.alloc (boxR s n t d 27)).heap.size = w.heap.size + 1 := by simp
  rw [hW] at T1 T2 T3
  rw [hS] at T1 T2 T3 ⊢
  have HC1 := Lib.hid (fun W => Canon_run s n W hn)
  have HC2 := Lib.hid (fun W => Canon_run t d W hd)
  obtain ⟨c, hc⟩ : ∃ c, sgZ t d = c := ⟨_, rfl⟩
  have HS := Lib.hid (fun W => sign_run t d c W hd hc)
  have HG := Lib.hid (fun W => Gcd_run s n t d W hn hd)
  have HO := Lib.hid (fun W => Of_run 1 W (by decide) (by decide))
  have hg : Fits (Nat.gcd n d) := by
    rcases Nat.eq_zero_or_pos n with h | h
    · subst h; rw [Nat.gcd_zero_left]; exact hd.out
    · exact Nat.lt_of_le_of_lt (Nat.gcd_le_left d h) hn.out
  have E1 := fun W => eqInt s n (sgn s n) n W hn.out hn.out
  have E2 := fun W => eqInt t d (sgn t d) d W hd.out hd.out
  obtain ⟨g, hgg⟩ : ∃ g, Nat.gcd n d = g := ⟨_, rfl⟩
  rw [hgg] at hg HG
  have E3 := fun W => neInt false g false 1 W hg (show Fits 1 from Nat.one_lt_pow (by decide) (by decide))
  have HR : Hid (chk s n t d = if decide (s = sgn s n ∧ n = n) = true ∧ decide (t = sgn t d ∧ d = d) = true ∧ 0 < c ∧ decide (false = false ∧ g = 1) = true then 0 else 8) := by
    show _ = _
    rw [← hc]
    unfold chk vld sgZ sgn
    rw [hgg]
    rcases Nat.eq_zero_or_pos d with h2 | h2
    · subst h2; simp
    · have h2' : d ≠ 0 := by omega
      by_cases h1 : n = 0 <;> by_cases h3 : g = 1 <;> cases s <;> cases t <;> simp [h1, h2, h2', h3]
  obtain ⟨s', hs'⟩ : ∃ s', sgn s n = s' := ⟨_, rfl⟩
  obtain ⟨t', ht'⟩ : ∃ t', sgn t d = t' := ⟨_, rfl⟩
  rw [hs'] at HC1 E1 HR
  rw [ht'] at HC2 E2 HR
  obtain ⟨c1, hc1⟩ : ∃ c, decide (s = s' ∧ n = n) = c := ⟨_, rfl⟩
  obtain ⟨c2, hc2⟩ : ∃ c, decide (t = t' ∧ d = d) = c := ⟨_, rfl⟩
  obtain ⟨c3, hc3⟩ : ∃ c, decide (false = false ∧ g = 1) = c := ⟨_, rfl⟩
  rw [hc1] at E1 HR
  rw [hc2] at E2 HR
  rw [hc3] at E3 HR
  have HK : Hid (∀ w1, Below W.drew.heap.size W.drew w1 → RatAt w1 S s n t d ∧ Below S w w1 ∧ S + 1 ≤ w1.heap.size) := fun w1 hw1 => by
    have hz : W.drew.heap.size = S + 1 := T3
    exact ⟨RatAt.keep (w := W.drew) T1.drew hw1 (by omega), T2.drew.trans (hw1.mono (by omega)), by have := hw1.size; omega⟩
  have hO : intV (decide ((1 : Int) < 0)) (1 : Int).natAbs = intV false 1 := rfl
  rw [hO] at HO
  have D0 := Lib.hid T1.drew.cells
  have HT1 := Lib.hid T1
  clear hO hc hc1 hc2 hc3 hs' ht' hgg hg T1 T2 T3 hn hd
  unfold intV at E1 E2 E3 HC1 HC2 HS HG HO
  unfold ratV
  cases c1 with
  | false =>
    have HV : Hid (chk s n t d = 8) := by show _ = _; rw [HR.out]; simp
    clear HR
    go_enter Tryd.func7, Tryd.ntmps7
    go_upto_region 1 with fail
    obtain ⟨⟨a0, x0⟩, ⟨a1, x1⟩, ⟨a2, x2⟩, ⟨a3, x3⟩, ⟨a4, x4⟩, ⟨a5, x5⟩, ⟨a6, x6⟩, ⟨a7, x7⟩, ⟨a8, x8⟩⟩ := HT1.out.num.nine0
    clear x0 x1 x2 x3 x4 x5 x6 x7 x8
    first | (go_region_with (go_at_call 24; ((with_reducible refine (HC1.out _).mono ?_); rintro e w2 ⟨rfl, hw2⟩); obtain ⟨L1, LB, lz⟩ := HK.out _ hw2; have HLB := Lib.hid LB; obtain ⟨⟨e0, f0⟩, ⟨e1, f1⟩, ⟨e2, f2⟩, ⟨e3, f3⟩, ⟨e4, f4⟩, ⟨e5, f5⟩, ⟨e6, f6⟩, ⟨e7, f7⟩, ⟨e8, f8⟩⟩ := L1.num.nine0; clear L1 LB lz hw2)) | fail
    all_goals go_wp2_with fail
    all_goals go_ret
    all_goals exact ⟨by rw [HV.out]; rfl, HLB.out⟩
  | true => cases c2 with
    | false =>
      have HV : Hid (chk s n t d = 8) := by show _ = _; rw [HR.out]; simp
      clear HR
      go_enter Tryd.func7, Tryd.ntmps7
      go_upto_region 1 with fail
      go_region_held3 (fun W' => W'.cell? ⟨S, 0, none⟩ = some (.bool s) ∧ W'.cell? ⟨S, 1, none⟩ = some (.int .u64 (wd n 0 : Int)) ∧ W'.cell? ⟨S, 2, none⟩ = some (.int .u64 (wd n 1 : Int)) ∧ W'.cell? ⟨S, 3, none⟩ = some (.int .u64 (wd n 2 : Int)) ∧ W'.cell? ⟨S, 4, none⟩ = some (.int .u64 (wd n 3 : Int)) ∧ W'.cell? ⟨S, 5, none⟩ = some (.int .u64 (wd n 4 : Int)) ∧ W'.cell? ⟨S, 6, none⟩ = some (.int .u64 (wd n 5 : Int)) ∧ W'.cell? ⟨S, 7, none⟩ = some (.int .u64 (wd n 6 : Int)) ∧ W'.cell? ⟨S, 8, none⟩ = some (.int .u64 (wd n 7 : Int)) ∧ W'.cell? ⟨S, 9, none⟩ = some (.bool t) ∧ W'.cell? ⟨S, 10, none⟩ = some (.int .u64 (wd d 0 : Int)) ∧ W'.cell? ⟨S, 11, none⟩ = some (.int .u64 (wd d 1 : Int)) ∧ W'.cell? ⟨S, 12, none⟩ = some (.int .u64 (wd d 2 : Int)) ∧ W'.cell? ⟨S, 13, none⟩ = some (.int .u64 (wd d 3 : Int)) ∧ W'.cell? ⟨S, 14, none⟩ = some (.int .u64 (wd d 4 : Int)) ∧ W'.cell? ⟨S, 15, none⟩ = some (.int .u64 (wd d 5 : Int)) ∧ W'.cell? ⟨S, 16, none⟩ = some (.int .u64 (wd d 6 : Int)) ∧ W'.cell? ⟨S, 17, none⟩ = some (.int .u64 (wd d 7 : Int))) (first | with_reducible exact D0.out | with_reducible exact D1.out | with_reducible exact D2.out)
        (first | (go_at_call 24; have HLX := HLB; clear HLX; ((with_reducible refine (HC2.out _).mono ?_); rintro e w3 ⟨rfl, hw3⟩); have M1 := HL1.out.keep hw3 (by omega); have D2 := Lib.hid M1.cells; have HM1 := Lib.hid M1; have HMB := Lib.hid (HLB.out.trans (hw3.mono (by omega))); have mz := Nat.le_trans lz hw3.size; clear M1 hw3) | (go_at_call 24; ((with_reducible refine (HC1.out _).mono ?_); rintro e w2 ⟨rfl, hw2⟩); obtain ⟨L1, LB, lz⟩ := HK.out _ hw2; have D1 := Lib.hid L1.cells; have HL1 := Lib.hid L1; have HLB := Lib.hid LB; clear L1 LB hw2))
      go_wp2_with fail
      go_ret
      exact ⟨by rw [HV.out]; rfl, HMB.out⟩
    | true =>
      go_enter Tryd.func7, Tryd.ntmps7
      go_upto_region 1 with fail
      go_region_held3 (fun W' => W'.cell? ⟨S, 0, none⟩ = some (.bool s) ∧ W'.cell? ⟨S, 1, none⟩ = some (.int .u64 (wd n 0 : Int)) ∧ W'.cell? ⟨S, 2, none⟩ = some (.int .u64 (wd n 1 : Int)) ∧ W'.cell? ⟨S, 3, none⟩ = some (.int .u64 (wd n 2 : Int)) ∧ W'.cell? ⟨S, 4, none⟩ = some (.int .u64 (wd n 3 : Int)) ∧ W'.cell? ⟨S, 5, none⟩ = some (.int .u64 (wd n 4 : Int)) ∧ W'.cell? ⟨S, 6, none⟩ = some (.int .u64 (wd n 5 : Int)) ∧ W'.cell? ⟨S, 7, none⟩ = some (.int .u64 (wd n 6 : Int)) ∧ W'.cell? ⟨S, 8, none⟩ = some (.int .u64 (wd n 7 : Int)) ∧ W'.cell? ⟨S, 9, none⟩ = some (.bool t) ∧ W'.cell? ⟨S, 10, none⟩ = some (.int .u64 (wd d 0 : Int)) ∧ W'.cell? ⟨S, 11, none⟩ = some (.int .u64 (wd d 1 : Int)) ∧ W'.cell? ⟨S, 12, none⟩ = some (.int .u64 (wd d 2 : Int)) ∧ W'.cell? ⟨S, 13, none⟩ = some (.int .u64 (wd d 3 : Int)) ∧ W'.cell? ⟨S, 14, none⟩ = some (.int .u64 (wd d 4 : Int)) ∧ W'.cell? ⟨S, 15, none⟩ = some (.int .u64 (wd d 5 : Int)) ∧ W'.cell? ⟨S, 16, none⟩ = some (.int .u64 (wd d 6 : Int)) ∧ W'.cell? ⟨S, 17, none⟩ = some (.int .u64 (wd d 7 : Int))) (first | with_reducible exact D0.out | with_reducible exact D1.out | with_reducible exact D2.out)
        (first | (go_at_call 24; have HLX := HLB; clear HLX; ((with_reducible refine (HC2.out _).mono ?_); rintro e w3 ⟨rfl, hw3⟩); have M1 := HL1.out.keep hw3 (by omega); have D2 := Lib.hid M1.cells; have HM1 := Lib.hid M1; have HMB := Lib.hid (HLB.out.trans (hw3.mono (by omega))); have mz := Nat.le_trans lz hw3.size; clear M1 hw3) | (go_at_call 24; ((with_reducible refine (HC1.out _).mono ?_); rintro e w2 ⟨rfl, hw2⟩); obtain ⟨L1, LB, lz⟩ := HK.out _ hw2; have D1 := Lib.hid L1.cells; have HL1 := Lib.hid L1; have HLB := Lib.hid LB; clear L1 LB hw2))
      obtain ⟨⟨a0, x0⟩, ⟨a1, x1⟩, ⟨a2, x2⟩, ⟨a3, x3⟩, ⟨a4, x4⟩, ⟨a5, x5⟩, ⟨a6, x6⟩, ⟨a7, x7⟩, ⟨a8, x8⟩⟩ := HM1.out.num.nine0
      obtain ⟨⟨p0, y0⟩, ⟨p1, y1⟩, ⟨p2, y2⟩, ⟨p3, y3⟩, ⟨p4, y4⟩, ⟨p5, y5⟩, ⟨p6, y6⟩, ⟨p7, y7⟩, ⟨p8, y8⟩⟩ := HM1.out.den.nine9
      clear x0 x1 x2 x3 x4 x5 x6 x7 x8 y0 y1 y2 y3 y4 y5 y6 y7 y8 D0 D1 D2 HK HL1 HLB
      by_cases hc0 : c ≤ 0
      · have HV : Hid (chk s n t d = 8) := by show _ = _; rw [HR.out]; simp; intro h; omega
        clear HR
        go_wp2_with fail
        refine (HS.out _).mono ?_
        rintro e w4 ⟨rfl, hw4⟩
        have B4 := Lib.hid (HMB.out.trans (hw4.mono (by omega)))
        clear hw4
        go_wp2_with fail
        go_ret
        exact ⟨by rw [HV.out]; rfl, B4.out⟩
      · go_wp2_with fail
        refine (HS.out _).mono ?_
        rintro e w4 ⟨rfl, hw4⟩
        have M4 := HM1.out.keep hw4 (by omega)
        have B4 := Lib.hid (HMB.out.trans (hw4.mono (by omega)))
        have z4 := Nat.le_trans mz hw4.size
        clear hw4 mz a0 a1 a2 a3 a4 a5 a6 a7 a8 p0 p1 p2 p3 p4 p5 p6 p7 p8 HM1 HMB
        obtain ⟨⟨a0, x0⟩, ⟨a1, x1⟩, ⟨a2, x2⟩, ⟨a3, x3⟩, ⟨a4, x4⟩, ⟨a5, x5⟩, ⟨a6, x6⟩, ⟨a7, x7⟩, ⟨a8, x8⟩⟩ := M4.num.nine0
        obtain ⟨⟨p0, y0⟩, ⟨p1, y1⟩, ⟨p2, y2⟩, ⟨p3, y3⟩, ⟨p4, y4⟩, ⟨p5, y5⟩, ⟨p6, y6⟩, ⟨p7, y7⟩, ⟨p8, y8⟩⟩ := M4.den.nine9
        clear x0 x1 x2 x3 x4 x5 x6 x7 x8 y0 y1 y2 y3 y4 y5 y6 y7 y8 M4
        go_wp2_with fail
        refine (HG.out _).mono ?_
        rintro e w5 ⟨rfl, hw5⟩
        have B5 := Lib.hid (B4.out.trans (hw5.mono (by omega)))
        have z5 := Nat.le_trans z4 hw5.size
        clear hw5 a0 a1 a2 a3 a4 a5 a6 a7 a8 p0 p1 p2 p3 p4 p5 p6 p7 p8 B4
        go_wp2_with fail
        refine (HO.out _).mono ?_
        rintro e w6 ⟨rfl, hw6⟩
        have B6 := Lib.hid (B5.out.trans (hw6.mono (by omega)))
        clear hw6 B5
        cases c3 with
        | true =>
          have HV : Hid (chk s n t d = 0) := by show _ = _; rw [HR.out]; simp; omega
          clear HR
          go_wp2_with fail
          go_ret
          exact ⟨by rw [HV.out]; rfl, B6.out⟩
        | false =>
          have HV : Hid (chk s n t d = 8) := by show _ = _; rw [HR.out]; simp
          clear HR
          go_wp2_with fail
          go_ret
          exact ⟨by rw [HV.out]; rfl, B6.out⟩
end Go.Proofs.YtbcnpajdmlbieaaDoor
