/-
  The walk of the law LinesPlaces: it answers true, and leaves what was there as it was.
-/
import Derived.Test.YtihdljadggoimaaLnFew
namespace Go.Proofs.Ytihdljadggoimaa
open Go.RowKit

theorem bool_of (p : Prop) : ∃ v : Bool, v = true ↔ p := by
  by_cases h : p
  · exact ⟨true, by simp [h]⟩
  · exact ⟨false, by simp [h]⟩
theorem fewN_le (n : Nat) : fewN n ≤ n ∧ fewN n ≤ 50 := by unfold fewN; omega
theorem fewZ_le (z : Int) : fewZ z ≤ 100000 := by unfold fewZ; omega
theorem take_fewN {L : List Int} {n : Nat} (h : L.length = n) : (L.take (fewN n)).length = fewN n := by
  have := fewN_le n
  rw [List.length_take]
  omega
/-- A boxed table, put in a smaller one's place. -/
theorem boxed (w : World) (a b c d : Value) (t : TypeId) (w1 : World) (h1 : Below (w.heap.size + 1) (w.alloc (.cells #[a, b] t)) w1) :
    w1.cell? ⟨w.heap.size, 0, none⟩ = some a ∧ w1.cell? ⟨w.heap.size, 1, none⟩ = some b ∧ w1.frozen? ⟨w.heap.size, 0, none⟩ = false ∧ w1.frozen? ⟨w.heap.size, 1, none⟩ = false ∧
    ((w1.setCell ⟨w.heap.size, 0, none⟩ c).setCell ⟨w.heap.size, 1, none⟩ d).cell? ⟨w.heap.size, 0, none⟩ = some c ∧ ((w1.setCell ⟨w.heap.size, 0, none⟩ c).setCell ⟨w.heap.size, 1, none⟩ d).cell? ⟨w.heap.size, 1, none⟩ = some d ∧
    Below w.heap.size w ((w1.setCell ⟨w.heap.size, 0, none⟩ c).setCell ⟨w.heap.size, 1, none⟩ d) ∧ w.heap.size < ((w1.setCell ⟨w.heap.size, 0, none⟩ c).setCell ⟨w.heap.size, 1, none⟩ d).heap.size := by
  have c0 : w1.cell? ⟨w.heap.size, 0, none⟩ = some a := (h1.cell (p := ⟨w.heap.size, 0, none⟩) (by simp)).trans (World.cell?_alloc_at _ _ _ _ rfl)
  have c1 : w1.cell? ⟨w.heap.size, 1, none⟩ = some b := (h1.cell (p := ⟨w.heap.size, 1, none⟩) (by simp)).trans (World.cell?_alloc_at _ _ _ _ rfl)
  have hs := h1.size
  simp at hs
  refine ⟨c0, c1, (h1.frozen (p := ⟨w.heap.size, 0, none⟩) (by simp)).trans (World.frozen?_alloc_at _ _ _ _ rfl), (h1.frozen (p := ⟨w.heap.size, 1, none⟩) (by simp)).trans (World.frozen?_alloc_at _ _ _ _ rfl), ?_, ?_, ?_, ?_⟩
  · go_simp
  · go_simp
  · exact ((((Below.refl _ _).alloc (Nat.le_refl _) _).trans (h1.mono (by omega))).setCell (by simp) _).setCell (by simp) _
  · simp [World.setCell]
    omega
set_option maxRecDepth 100000 in
set_option maxHeartbeats 4000000 in
theorem linesPlaces_any (A : Option Addr) (n cap : Nat) (L : List Int) (z off : Int) (w : World) (hb : Nums w w.heap.size A L) (hl : L.length = n) (hcap : n ≤ cap) (hmax : cap ≤ 9223372036854775807) :
    Calls Try.prog 3 #[.agg #[.slice A n cap, .int .i64 z], .int .i64 off] w fun e w' => e = .returned (.bool true) ∧ Below w.heap.size w w' := by
  have hm := fewN_le n
  have hz := fewZ_le z
  obtain ⟨v, hv⟩ := bool_of (Ln.Valid (L.take (fewN n)) (fewZ z))
  have HV := Lib.hid hv
  have HL := Lib.hid (take_fewN hl)
  have HB : Hid (Nums w w.heap.size A (L.take (fewN n))) := NumsK.take hb _
  obtain ⟨l, c, k, hp⟩ : ∃ l c k, posOut v (L.take (fewN n)) (fewZ z) off = (l, c, k) := ⟨_, _, _, rfl⟩
  have HP := Lib.hid hp
  have hk := posOut_code hp
  have hF := Lib.hid (few_run A n cap z (w.alloc (.cells #[.slice A n cap, .int .i64 z] 24)) hcap)
  have hmc : fewN n ≤ cap := by omega
  generalize fewN n = m at *
  generalize fewZ z = y at *
  generalize L.take m = L1 at *
  clear hb hl hv hp hcap
  go_enter Try.func3, Try.ntmps3
  go_wp2_with fail
  refine hF.out.mono ?_
  rintro e w1 ⟨rfl, hw1⟩
  obtain ⟨c0, c1, f0, f1, d0, d1, bw, hs⟩ := boxed w (.slice A n cap) (.int .i64 z) (.slice A m cap) (.int .i64 y) 24 w1 (by simpa using hw1)
  have D0 := Lib.hid d0
  have D1 := Lib.hid d1
  have BW := Lib.hid bw
  clear d0 d1 bw hw1
  go_wp2_with fail
  generalize (w1.setCell ⟨w.heap.size, 0, none⟩ (.slice A m cap)).setCell ⟨w.heap.size, 1, none⟩ (.int .i64 y) = W at *
  clear c0 c1 f0 f1 hF
  refine (pos_run A m cap L1 y off v W HV (NumsK.on HB.out (Nat.le_refl _) BW.out) HL hmc hmax (by omega) (by omega) l c k HP).mono ?_
  rintro e w2 ⟨rfl, hw2⟩
  have e0 := (hw2.cell (p := ⟨w.heap.size, 0, none⟩) hs).trans D0.out
  have e1 := (hw2.cell (p := ⟨w.heap.size, 1, none⟩) hs).trans D1.out
  have B2 := Lib.hid (BW.out.trans (hw2.mono (by omega)))
  have hs2 := B2.out.size
  clear hw2
  go_wp2_with fail
  refine (refPos_run A m cap L1 y off v w2 HV (NumsK.on HB.out (Nat.le_refl _) B2.out) HL hmc hmax (by omega) (by omega) l c k HP).mono ?_
  rintro e w3 ⟨rfl, hw3⟩
  have B3 := Lib.hid (B2.out.trans (hw3.mono hs2))
  have hs3 := B3.out.size
  clear hw3 e0 e1
  go_wp2_with fail
  refine (code_errOf k hk _).mono ?_
  rintro e w4 ⟨rfl, hw4⟩
  have B4 := Lib.hid (B3.out.trans (hw4.mono hs3))
  have hs4 := B4.out.size
  clear hw4
  go_wp2_with fail
  refine (works_run _).mono ?_
  rintro e w5 ⟨rfl, hw5⟩
  go_wp2
  go_ret
  exact ⟨rfl, B4.out.trans (hw5.mono hs4)⟩
end Go.Proofs.Ytihdljadggoimaa
