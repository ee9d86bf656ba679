/-
  The walk of the law LinesOffsets: it answers true, and leaves what was there as it was.
-/
import Derived.Test.YtihdljadggoimaaLnLawA
namespace Go.Proofs.Ytihdljadggoimaa
open Go.RowKit

set_option maxRecDepth 100000 in
set_option maxHeartbeats 4000000 in
theorem linesOffsets_any (A : Option Addr) (n cap : Nat) (L : List Int) (z line col : Int) (w : World) (hb : Nums w w.heap.size A L) (hl : L.length = n) (hcap : n ≤ cap) (hmax : cap ≤ 9223372036854775807) (hcol : col ≤ 9223372036854775807) :
    Calls Try.prog 4 #[.agg #[.slice A n cap, .int .i64 z], .int .i64 line, .int .i64 col] w fun e w' => e = .returned (.bool true) ∧ Below w.heap.size w w' := by
  have hm := fewN_le n
  have hz := fewZ_le z
  obtain ⟨v, hv⟩ := bool_of (Ln.Valid (L.take (fewN n)) (fewZ z))
  have HV := Lib.hid hv
  have HL := Lib.hid (take_fewN hl)
  have HB : Hid (Nums w w.heap.size A (L.take (fewN n))) := NumsK.take hb _
  obtain ⟨x, k, hp⟩ : ∃ x k, offOut v (L.take (fewN n)) (fewZ z) line col = (x, k) := ⟨_, _, rfl⟩
  obtain ⟨f, t, q, hq⟩ : ∃ f t q, lineOut v (L.take (fewN n)) (fewZ z) line = (f, t, q) := ⟨_, _, _, rfl⟩
  have HP := Lib.hid hp
  have HQ := Lib.hid hq
  have hk := offOut_code hp
  have hk2 := lineOut_code hq
  have hF := Lib.hid (few_run A n cap z (w.alloc (.cells #[.slice A n cap, .int .i64 z] 24)) hcap)
  have hmc : fewN n ≤ cap := by omega
  generalize fewN n = m at *
  generalize fewZ z = y at *
  generalize L.take m = L1 at *
  clear hb hl hv hp hq hcap
  go_enter Try.func4, Try.ntmps4
  go_wp2_with fail
  refine hF.out.mono ?_
  rintro e w1 ⟨rfl, hw1⟩
  obtain ⟨c0, c1, f0, f1, d0, d1, bw, hs⟩ := boxed w (.slice A n cap) (.int .i64 z) (.slice A m cap) (.int .i64 y) 24 w1 (by simpa using hw1)
  have D0 := Lib.hid d0
  have D1 := Lib.hid d1
  have BW := Lib.hid bw
  clear d0 d1 bw hw1
  go_wp2_with fail
  generalize (w1.setCell ⟨w.heap.size, 0, none⟩ (.slice A m cap)).setCell ⟨w.heap.size, 1, none⟩ (.int .i64 y) = W at *
  clear c0 c1 f0 f1 hF
  refine (off_run A m cap L1 y line col v W HV (NumsK.on HB.out (Nat.le_refl _) BW.out) HL hmc hmax (by omega) (by omega) hcol x k HP).mono ?_
  rintro e w2 ⟨rfl, hw2⟩
  have e0 := (hw2.cell (p := ⟨w.heap.size, 0, none⟩) hs).trans D0.out
  have e1 := (hw2.cell (p := ⟨w.heap.size, 1, none⟩) hs).trans D1.out
  have E0 := Lib.hid e0
  have E1 := Lib.hid e1
  have B2 := Lib.hid (BW.out.trans (hw2.mono (by omega)))
  have hs2 := B2.out.size
  have ht2 : w.heap.size < w2.heap.size := by have := hw2.size; omega
  clear hw2
  go_wp2_with fail
  refine (refOff_run A m cap L1 y line col v w2 HV (NumsK.on HB.out (Nat.le_refl _) B2.out) HL hmc hmax (by omega) (by omega) x k HP).mono ?_
  rintro e w3 ⟨rfl, hw3⟩
  have B3 := Lib.hid (B2.out.trans (hw3.mono hs2))
  have hs3 := B3.out.size
  have g0 := (hw3.cell (p := ⟨w.heap.size, 0, none⟩) ht2).trans E0.out
  have g1 := (hw3.cell (p := ⟨w.heap.size, 1, none⟩) ht2).trans E1.out
  have G0 := Lib.hid g0
  have G1 := Lib.hid g1
  have ht3 : w.heap.size < w3.heap.size := by have := hw3.size; omega
  clear hw3 e0 e1
  go_wp2_with fail
  refine (line_run A m cap L1 y line v w3 HV (NumsK.on HB.out (Nat.le_refl _) B3.out) HL hmc hmax (by omega) f t q HQ).mono ?_
  rintro e w4 ⟨rfl, hw4⟩
  have B4 := Lib.hid (B3.out.trans (hw4.mono hs3))
  have hs4 := B4.out.size
  have ht4 : w.heap.size < w4.heap.size := by have := hw4.size; omega
  have j0 : (w4.alloc (.cells #[.int .i64 f, .int .i64 t] 40)).cell? ⟨w.heap.size, 0, none⟩ = some (.slice A m cap) := by
    rw [World.cell?_alloc_lt _ _ ⟨w.heap.size, 0, none⟩ ht4]
    exact (hw4.cell (p := ⟨w.heap.size, 0, none⟩) ht3).trans G0.out
  have j1 : (w4.alloc (.cells #[.int .i64 f, .int .i64 t] 40)).cell? ⟨w.heap.size, 1, none⟩ = some (.int .i64 y) := by
    rw [World.cell?_alloc_lt _ _ ⟨w.heap.size, 1, none⟩ ht4]
    exact (hw4.cell (p := ⟨w.heap.size, 1, none⟩) ht3).trans G1.out
  have B5 : Hid (Below w.heap.size w (w4.alloc (.cells #[.int .i64 f, .int .i64 t] 40))) := B4.out.alloc hs4 _
  clear hw4 g0 g1
  go_wp2_with fail
  refine (refLine_run A m cap L1 y line v _ HV (NumsK.on HB.out (Nat.le_refl _) B5.out) HL hmc hmax (by omega) f t q HQ).mono ?_
  rintro e w6 ⟨rfl, hw6⟩
  have k0 := (hw6.cell (p := ⟨w4.heap.size, 0, none⟩) (by simp)).trans (World.cell?_alloc_at _ _ _ _ rfl)
  have k1 := (hw6.cell (p := ⟨w4.heap.size, 1, none⟩) (by simp)).trans (World.cell?_alloc_at _ _ _ _ rfl)
  have K0 := Lib.hid k0
  have K1 := Lib.hid k1
  have hs5 := B5.out.size
  have B6 := Lib.hid (B5.out.trans (hw6.mono hs5))
  have hs6 := B6.out.size
  have ht6 : w4.heap.size < w6.heap.size := by have := hw6.size; simp at this; omega
  clear hw6 k0 k1 j0 j1
  go_wp2_with fail
  refine (code_errOf k hk _).mono ?_
  rintro e w7 ⟨rfl, hw7⟩
  have B7 := Lib.hid (B6.out.trans (hw7.mono hs6))
  have hs7 := B7.out.size
  have k0 := (hw7.cell (p := ⟨w4.heap.size, 0, none⟩) ht6).trans K0.out
  have k1 := (hw7.cell (p := ⟨w4.heap.size, 1, none⟩) ht6).trans K1.out
  clear hw7
  go_wp2_with fail
  refine (code_errOf q hk2 _).mono ?_
  rintro e w8 ⟨rfl, hw8⟩
  have B8 := Lib.hid (B7.out.trans (hw8.mono hs7))
  have hs8 := B8.out.size
  clear hw8
  go_wp2_with fail
  refine (works_run _).mono ?_
  rintro e w9 ⟨rfl, hw9⟩
  go_wp2
  go_ret
  exact ⟨rfl, B8.out.trans (hw9.mono hs8)⟩
end Go.Proofs.Ytihdljadggoimaa
