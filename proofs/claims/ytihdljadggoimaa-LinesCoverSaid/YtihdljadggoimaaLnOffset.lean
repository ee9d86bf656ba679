/-
  The contract of lines.Offset.
-/
import Derived.Test.YtihdljadggoimaaLnOff
namespace Go.Proofs.Ytihdljadggoimaa
open Go.RowKit

set_option maxHeartbeats 2000000 in
theorem off_run (A : Option Addr) (n cap : Nat) (L : List Int) (z line col : Int) (v : Bool) (w : World) (hv : Hid (v = true ↔ Ln.Valid L z)) (hb : Nums w w.heap.size A L) (hl : Hid (L.length = n)) (hcap : n ≤ cap) (hmax : cap ≤ 9223372036854775807) (hn : n ≤ 1000000) (hz : z ≤ 1000000) (hcol : col ≤ 9223372036854775807)
    (x : Int) (k : Nat) (hp : Hid (offOut v L z line col = (x, k))) :
    Calls Try.prog 12 #[.agg #[.slice A n cap, .int .i64 z], .int .i64 line, .int .i64 col] w fun e w' => e = .returned (.tuple #[.int .i64 x, errOf k]) ∧ Below w.heap.size w w' := by
  obtain ⟨f, t, q, hq⟩ : ∃ f t q, lineOut v L z line = (f, t, q) := ⟨_, _, _, rfl⟩
  have HQ := Lib.hid hq
  have b1 : Below w.heap.size w (w.alloc (.cells #[.slice A n cap, .int .i64 z] 24)) := (Below.refl _ _).alloc (Nat.le_refl _) _
  have B1 := Lib.hid b1
  have D0 : Hid ((w.alloc (.cells #[.slice A n cap, .int .i64 z] 24)).cell? ⟨w.heap.size, 0, none⟩ = some (.slice A n cap)) := by
    show _ = _
    rw [World.cell?_alloc_at _ _ _ _ rfl]; rfl
  have hR := Lib.hid (line_run A n cap L z line v _ hv (NumsK.on hb (Nat.le_refl _) b1) hl hcap hmax hn f t q HQ.out)
  clear b1
  by_cases h0 : q = 0
  · subst h0
    obtain ⟨a1, a2, a3, a4, a5⟩ := lineOut_good hv.out hq
    clear hq
    rw [show errOf 0 = .nilIface from rfl] at hR
    go_enter Try.func12, Try.ntmps12
    go_wp2_with fail
    refine hR.out.mono ?_
    rintro e w1 ⟨rfl, hw1⟩
    have c0 := (hw1.cell (p := ⟨w.heap.size, 0, none⟩) (by simp)).trans D0.out
    have hs1 : w.heap.size + 1 ≤ w1.heap.size := by have := hw1.size; simpa using this
    have e0 : (w1.alloc (.cells #[.int .i64 f, .int .i64 t] 40)).cell? ⟨w.heap.size, 0, none⟩ = some (.slice A n cap) := by
      rw [World.cell?_alloc_lt _ _ ⟨w.heap.size, 0, none⟩ (by show w.heap.size < w1.heap.size; omega)]; exact c0
    have B2 : Hid (Below w.heap.size w (w1.alloc (.cells #[.int .i64 f, .int .i64 t] 40))) := (B1.out.trans (hw1.mono (by simp))).alloc (by omega) _
    clear hw1 c0
    go_upto_region 6 with fail
    by_cases h1 : col < 1
    · have HX : Hid (x = 0 ∧ k = 4) := by
        have := hp.out
        rw [offOut_out HQ.out (by omega)] at this
        cases this
        exact ⟨rfl, rfl⟩
      have d1 : decide (col < 1) = true := by simpa using h1
      go_wp2
      go_ret2
      obtain ⟨rfl, rfl⟩ := HX.out
      exact ⟨rfl, B2.out⟩
    · have d1 : decide (col < 1) = false := by simpa using h1
      by_cases h2 : t - f < col - 1
      · have HX : Hid (x = 0 ∧ k = 4) := by
          have := hp.out
          rw [offOut_out HQ.out (by omega)] at this
          cases this
          exact ⟨rfl, rfl⟩
        have d2 : decide (t - f < col - 1) = true := by simpa using h2
        go_wp2
        go_ret2
        obtain ⟨rfl, rfl⟩ := HX.out
        exact ⟨rfl, B2.out⟩
      · have d2 : decide (t - f < col - 1) = false := by simpa using h2
        by_cases h3 : col - 1 = t - f
        · have d3 : (col - 1 == t - f) = true := by simpa using h3
          by_cases h4 : line = n
          · have d4 : (line == (n : Int)) = true := by simpa using h4
            have HX : Hid (x = f + (t - f) ∧ k = 0) := by
              have := hp.out
              rw [offOut_in HQ.out (by have := hl.out; omega)] at this
              cases this
              exact ⟨by rw [h3], rfl⟩
            go_wp2
            go_ret2
            obtain ⟨rfl, rfl⟩ := HX.out
            exact ⟨rfl, B2.out⟩
          · have d4 : (line == (n : Int)) = false := by simpa using h4
            have HX : Hid (x = 0 ∧ k = 4) := by
              have := hp.out
              rw [offOut_out HQ.out (by have := hl.out; omega)] at this
              cases this
              exact ⟨rfl, rfl⟩
            go_wp2
            go_ret2
            obtain ⟨rfl, rfl⟩ := HX.out
            exact ⟨rfl, B2.out⟩
        · have d3 : (col - 1 == t - f) = false := by simpa using h3
          have HX : Hid (x = f + (col - 1) ∧ k = 0) := by
            have := hp.out
            rw [offOut_in HQ.out (by omega)] at this
            cases this
            exact ⟨rfl, rfl⟩
          go_wp2
          go_ret2
          obtain ⟨rfl, rfl⟩ := HX.out
          exact ⟨rfl, B2.out⟩
  · have hh := hp.out
    rw [offOut_bad hq h0] at hh
    cases hh
    rw [show errOf k = errno k from if_neg h0] at hR ⊢
    unfold errno at hR ⊢
    clear hp hq
    go_enter Try.func12, Try.ntmps12
    go_wp2_with fail
    refine hR.out.mono ?_
    rintro e w1 ⟨rfl, hw1⟩
    have hs1 : w.heap.size + 1 ≤ w1.heap.size := by have := hw1.size; simpa using this
    have B2 : Hid (Below w.heap.size w (w1.alloc (.cells #[.int .i64 f, .int .i64 t] 40))) := (B1.out.trans (hw1.mono (by simp))).alloc (by omega) _
    go_wp2
    go_ret2
    exact ⟨rfl, B2.out⟩
end Go.Proofs.Ytihdljadggoimaa
