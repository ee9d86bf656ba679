/-
  The walk of the law SpanMerges: it answers true, and leaves what was there as it was.
-/
import Derived.Test.YtnbnohphdehfoaaSpWorks
namespace Go.Proofs.Ytnbnohphdehfoaa
open Go.RowKit Go.Sort

theorem bool_ofP (p : Prop) : ∃ v : Bool, v = true ↔ p := by
  by_cases h : p
  · exact ⟨true, by simp [h]⟩
  · exact ⟨false, by simp [h]⟩
theorem take_few {l : List (Int × Int)} {n : Nat} (h : l.length = n) : (l.take (few20 n)).length = few20 n := by
  have := few20_le n
  rw [List.length_take]
  omega
/-- Merged, and walked over places: the same. -/
theorem merge_is_runs {l M L : List (Int × Int)} (hN : Near l) (hM : Sp.Norm M) (hh : ∀ x, Sp.Has M x ↔ Sp.Has l x) (hL : RunsOf (fun x => if false = true then ¬ Sp.Has l x else Sp.Has l x) (-300) 301 L) : M = L := by
  refine Sp.norm_unique hM hL.1 fun x => ?_
  rw [hh, hL.2]
  show Sp.Has l x ↔ -300 ≤ x ∧ x < 301 ∧ (if false = true then ¬ Sp.Has l x else Sp.Has l x)
  rw [if_neg (by simp)]
  constructor
  · intro h
    obtain ⟨s, hs, h1, h2⟩ := h
    have := hN s hs
    exact ⟨by omega, by omega, s, hs, h1, h2⟩
  · exact fun h => h.2.2
set_option maxRecDepth 100000 in
set_option maxHeartbeats 8000000 in
theorem spanMerges_any (A : Option Addr) (n cap : Nat) (L : List (Int × Int)) (z : Int) (w : World) (hb : CellsV pairCells w w.heap.size A L) (hl : L.length = n) (hcap : n ≤ cap) :
    Calls Try.prog 4 #[.slice A n cap, .int .i64 z] w fun e w' => e = .returned (.bool true) ∧ Below w.heap.size w w' := by
  have hm := few20_le n
  have HB : Hid (CellsV pairCells w w.heap.size A (L.take (few20 n))) := CellsV.take pair_enc hb _
  have HL : Hid ((L.take (few20 n)).length = few20 n) := take_few hl
  have HF := Lib.hid (few_run A n cap w hcap)
  have HWk : Hid (∀ W, Calls Try.prog 15 #[] W fun e w' => e = .returned (.bool true) ∧ Below W.heap.size W w') := fun W => works_run W
  generalize few20 n = k at *
  generalize L.take k = l at *
  clear hb hl
  obtain ⟨v, hv⟩ := bool_ofP (Near l)
  have HV := Lib.hid hv
  clear hv
  go_enter Try.func4, Try.ntmps4
  go_wp2_with fail
  refine HF.out.mono ?_
  rintro e w1 ⟨rfl, rfl⟩
  go_wp2_with fail
  refine (near_run A k cap l v w HB.out HL HV (by omega)).mono ?_
  rintro e w1 ⟨rfl, hw1⟩
  have B1 := Lib.hid hw1
  have hs1 := hw1.size
  clear hw1
  cases v with
  | false =>
    go_wp2_with fail
    refine (HWk.out w1).mono ?_
    rintro e w2 ⟨rfl, hw2⟩
    go_wp2_with fail
    go_ret
    exact ⟨rfl, B1.out.trans (hw2.mono hs1)⟩
  | true =>
    have HN : Hid (Near l) := HV.out.1 rfl
    by_cases hz : 300 < z
    · have hz' : decide (300 < z) = true := decide_eq_true hz
      clear hz
      go_wp2_with fail
      refine (HWk.out w1).mono ?_
      rintro e w2 ⟨rfl, hw2⟩
      go_wp2_with fail
      go_ret
      exact ⟨rfl, B1.out.trans (hw2.mono hs1)⟩
    · have hz' : decide (300 < z) = false := decide_eq_false hz
      have HZ : Hid (z ≤ 1000) := show z ≤ 1000 by omega
      clear hz HV
      go_wp2_with fail
      refine (gaps_run A k cap l z w1 (HB.out.on (Nat.le_refl _) B1.out) HL (by omega)).mono ?_
      rintro e w2 ⟨v2, G, rfl, hG1, hG2, hGl, A2, cap2, rfl, hc2, hm2, hy2, hb2⟩
      have HG : Hid ((errOfL z l ≠ 0 → G = []) ∧ (errOfL z l = 0 → RunsOf (fun x => ¬ Sp.Has l x) 0 z G) ∧ G.length ≤ 2000) := ⟨hG1, hG2, by have := HL.out; omega⟩
      have Y2 := Lib.hid hy2
      have B2 : Hid (Below w.heap.size w w2) := B1.out.trans (hb2.mono hs1)
      have hs2 := B2.out.size
      clear hG1 hG2 hGl hy2 hb2 hc2 hm2
      go_wp2_with fail
      refine (refGaps_run A k cap l z w2 (HB.out.on (Nat.le_refl _) B2.out) HL (by omega) HZ.out).mono ?_
      rintro e w3 ⟨v3, G', rfl, hG1, hG2, hGl, A3, cap3, rfl, hc3, hm3, hy3, hb3⟩
      have HEq : Hid (G' = G) := by
        show _ = _
        by_cases h : errOfL z l = 0
        · exact (hG2 h).unique (HG.out.2.1 h)
        · rw [hG1 h, HG.out.1 h]
      obtain rfl := HEq.out
      have Y3 := Lib.hid hy3
      have Y2' := Lib.hid (Y2.out.on (Nat.le_refl _) hb3)
      have B3 : Hid (Below w.heap.size w w3) := B2.out.trans (hb3.mono hs2)
      have hs3 := B3.out.size
      clear hG1 hG2 hGl hy3 hb3 hc3 hm3 HEq Y2
      go_wp2_with fail
      refine (merge_run A k cap l w3 (HB.out.on (Nat.le_refl _) B3.out) HL (by omega)).mono ?_
      rintro e w4 ⟨v4, M, rfl, hM1, hM2, hMl, A4, cap4, rfl, hc4, hm4, hy4, hb4⟩
      have HM : Hid (Sp.Norm M ∧ (∀ x, Sp.Has M x ↔ Sp.Has l x) ∧ M.length ≤ 2000) := ⟨hM1, hM2, by have := HL.out; omega⟩
      have Y4 := Lib.hid hy4
      have Y2 := Lib.hid (Y2'.out.on (Nat.le_refl _) hb4)
      have Y3' := Lib.hid (Y3.out.on (Nat.le_refl _) hb4)
      have B4 : Hid (Below w.heap.size w w4) := B3.out.trans (hb4.mono hs3)
      have hs4 := B4.out.size
      clear hM1 hM2 hMl hy4 hb4 hc4 hm4 Y2' Y3
      go_wp2_with fail
      refine (runs_run A k cap l (-300) 301 false w4 (HB.out.on (Nat.le_refl _) B4.out) HL (by omega) (by omega) (by omega)).mono ?_
      rintro e w5 ⟨v5, R, rfl, hR, hRl, A5, cap5, rfl, hc5, hm5, hy5, hb5⟩
      have HEq : Hid (M = R) := merge_is_runs HN.out HM.out.1 HM.out.2.1 hR
      obtain rfl := HEq.out
      have Y5 := Lib.hid hy5
      have Y4' := Lib.hid (Y4.out.on (Nat.le_refl _) hb5)
      have Y2' := Lib.hid (Y2.out.on (Nat.le_refl _) hb5)
      have Y3 := Lib.hid (Y3'.out.on (Nat.le_refl _) hb5)
      have B5 : Hid (Below w.heap.size w w5) := B4.out.trans (hb5.mono hs4)
      have hs5 := B5.out.size
      have hMl := HM.out.2.2
      have hGl := HG.out.2.2
      clear hR hRl hy5 hb5 hc5 hm5 HEq Y4 Y2 Y3'
      go_wp2_with fail
      refine (same_run A4 A5 M.length M.length cap4 cap5 M M true w5 Y4'.out Y5.out rfl rfl (by show _ = _; simp) (by omega) (by omega)).mono ?_
      rintro e w6 ⟨rfl, q6, hq6⟩
      have hb6 : Below w5.heap.size w5 w6 := hq6 ▸ below_drewN (Below.refl _ _) q6
      have Y2 := Lib.hid (Y2'.out.on (Nat.le_refl _) hb6)
      have Y3' := Lib.hid (Y3.out.on (Nat.le_refl _) hb6)
      have B6 : Hid (Below w.heap.size w w6) := B5.out.trans (hb6.mono hs5)
      have hs6 := B6.out.size
      clear hq6 hb6 Y5 Y4' Y2' Y3
      obtain ⟨c1, c2, hcv⟩ : ∃ c1 c2, cover l = (c1, c2) := ⟨_, _, rfl⟩
      have HCv := Lib.hid hcv
      clear hcv
      have hE := eqSpan
      have h11 : (c1 == c1) = true := by simp
      have h22 : (c2 == c2) = true := by simp
      go_wp2_with fail
      refine (cover_run A k cap l w6 HCv (HB.out.on (Nat.le_refl _) B6.out) HL (by omega)).mono ?_
      rintro e w7 ⟨rfl, hb7⟩
      have Y2' := Lib.hid (Y2.out.on (Nat.le_refl _) hb7)
      have Y3 := Lib.hid (Y3'.out.on (Nat.le_refl _) hb7)
      have B7 : Hid (Below w.heap.size w w7) := B6.out.trans (hb7.mono hs6)
      have hs7 := B7.out.size
      clear hb7 Y2 Y3'
      go_wp2_with fail
      refine (refCover_run A k cap l w7 HCv (HB.out.on (Nat.le_refl _) B7.out) HL (by omega)).mono ?_
      rintro e w8 ⟨rfl, hb8⟩
      have Y2 := Lib.hid (Y2'.out.on (Nat.le_refl _) hb8)
      have Y3' := Lib.hid (Y3.out.on (Nat.le_refl _) hb8)
      have B8 : Hid (Below w.heap.size w w8) := B7.out.trans (hb8.mono hs7)
      have hs8 := B8.out.size
      clear hb8 Y2' Y3
      go_wp2_with fail
      refine (same_run A2 A3 G'.length G'.length cap2 cap3 G' G' true w8 Y2.out Y3'.out rfl rfl (by show _ = _; simp) (by omega) (by omega)).mono ?_
      rintro e w9 ⟨rfl, q9, hq9⟩
      have hb9 : Below w8.heap.size w8 w9 := hq9 ▸ below_drewN (Below.refl _ _) q9
      have B9 : Hid (Below w.heap.size w w9) := B8.out.trans (hb9.mono hs8)
      have hs9 := B9.out.size
      have hkk : ((errOfL z l : Int) == errOfL z l) = true := by simp
      clear hq9 hb9 Y2 Y3' hE
      go_wp2_with fail
      refine (code_errOf (errOfL z l) (errOfL_le z l) w9).mono ?_
      rintro e w10 ⟨rfl, hb10⟩
      have B10 : Hid (Below w.heap.size w w10) := B9.out.trans (hb10.mono hs9)
      have hs10 := B10.out.size
      clear hb10
      go_wp2_with fail
      refine (HWk.out w10).mono ?_
      rintro e w11 ⟨rfl, hb11⟩
      go_wp2_with fail
      go_ret
      exact ⟨rfl, B10.out.trans (hb11.mono hs10)⟩
end Go.Proofs.Ytnbnohphdehfoaa
